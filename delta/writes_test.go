package delta

import (
	"math"
	"math/rand"
	"slices"
	"testing"

	"ramble/api"
	"ramble/value"
)

// writing is the chapter's sentence of Writes, word by word: the elements, and by their ids which kinds of them are written.
func writing(g api.Graph, l Changes) []api.Value {
	var out []api.Value
	for i, c := range l {
		if c.Kind == api.ChLast || !isElemSo(c.Elem) {
			continue
		}
		out = append(out, c.Elem)
		if c.Kind != api.ChDrop || c.Elem.Kind != api.VVertex {
			continue
		}
		for _, x := range g.E {
			if x.Out == c.Elem.N || x.In == c.Elem.N {
				out = append(out, value.Edge(x.Id))
			}
		}
		for _, x := range l[:i] {
			if x.Kind == api.ChAddE && isElemSo(x.Elem) && (x.Out == c.Elem.N || x.In == c.Elem.N) {
				out = append(out, x.Elem)
			}
		}
	}
	return eachOnce(out)
}

// isElemSo tells whether x is an element: a vertex or an edge that may be.
func isElemSo(x api.Value) bool {
	return (x.Kind == api.VVertex || x.Kind == api.VEdge) && x.N >= 1 && x.N <= 1<<48 && x.S == "" && len(x.L) == 0
}

// eachOnce are the elements each once, vertices first, then by ids.
func eachOnce(l []api.Value) []api.Value {
	slices.SortFunc(l, func(a, b api.Value) int {
		if a.Kind != b.Kind {
			return a.Kind - b.Kind
		}
		if a.N < b.N {
			return -1
		}
		return int(min(a.N-b.N, 1))
	})
	return slices.CompactFunc(l, func(a, b api.Value) bool { return a.Kind == b.Kind && a.N == b.N })
}

// needing is the chapter's sentence of Needs.
func needing(l Changes) []api.Value {
	var out []api.Value
	for _, c := range l {
		if c.Kind == api.ChAddE {
			for _, x := range []api.Value{value.Vertex(c.Out), value.Vertex(c.In)} {
				if isElemSo(x) {
					out = append(out, x)
				}
			}
		}
	}
	return eachOnce(out)
}

// conflicting is the chapter's sentence of Conflict.
func conflicting(g api.Graph, a, b Changes) bool {
	for _, x := range writing(g, a) {
		for _, y := range writing(g, b) {
			if x.N == y.N {
				return true
			}
		}
	}
	return takes(a, b) || takes(b, a)
}

// takes tells whether a drops or adds a vertex that b needs.
func takes(a, b Changes) bool {
	for _, c := range a {
		if c.Kind != api.ChDrop && c.Kind != api.ChAddV || c.Elem.Kind != api.VVertex || !isElemSo(c.Elem) {
			continue
		}
		for _, x := range needing(b) {
			if x.N == c.Elem.N {
				return true
			}
		}
	}
	return false
}

// P13.4: the elements of all changes, each once, vertices first, then by ids.
func TestWrites(t *testing.T) {
	g := sample()
	wantElems(t, "none", writes(t, g))
	wantElems(t, "none that is empty", writes(t, g, Changes{}...))
	wantElems(t, "ChAddV", writes(t, g, addsV(20, "a")), 20)
	wantElems(t, "ChAddE", writes(t, g, addsE(20, "a", 1, 2)), -20)
	wantElems(t, "ChSet", writes(t, g, sets(1, "a", value.Vertex(7)), sets(-3, "a", value.Int(1))), 1, -3)
	wantElems(t, "ChUnset", writes(t, g, unsets(1, "a"), unsets(-3, "a")), 1, -3)
	wantElems(t, "ChDrop of an edge", writes(t, g, dropsIt(-3)), -3)
	wantElems(t, "ChLast", writes(t, g, lastIs(20)))
	wantElems(t, "in order", writes(t, g, dropsIt(-8), sets(9, "a", value.Int(1)), unsets(-3, "a"), addsV(4, "a"), lastIs(2), addsE(20, "a", 1, 2), sets(-8, "a", value.Int(1)), sets(9, "b", value.Int(1))), 4, 9, -3, -8, -20)
	wantElems(t, "one id of both kinds", writes(t, g, unsets(-5, "a"), unsets(5, "a"), unsets(-2, "a")), 5, -2, -5)
	wantElems(t, "what there is not", writes(t, g, unsets(-99, "a"), unsets(77, "a"), dropsIt(66)), 66, 77, -99)
}

// P13.4: a vertex is dropped with its edges: those of the graph, and those that were added.
func TestWritesOfDrops(t *testing.T) {
	g := sample()
	wantElems(t, "v[1]", writes(t, g, dropsIt(1)), 1, -3, -5, -6, -7)
	wantElems(t, "v[2]", writes(t, g, dropsIt(2)), 2, -3, -5, -7, -8, -10)
	wantElems(t, "v[4]", writes(t, g, dropsIt(4)), 4, -6, -10)
	wantElems(t, "v[9]", writes(t, g, dropsIt(9)), 9)
	wantElems(t, "v[1] and v[4]", writes(t, g, dropsIt(4), dropsIt(1)), 1, 4, -3, -5, -6, -7, -10)
	wantElems(t, "an edge of that id", writes(t, g, dropsIt(-1)), -1)
	wantElems(t, "no drop", writes(t, g, unsets(1, "a"), sets(2, "a", value.Int(1)), addsV(4, "a")), 1, 2, 4)
	wantElems(t, "with edges that were added", writes(t, g, addsE(20, "a", 9, 9), addsE(21, "a", 4, 9), addsE(22, "a", 9, 1), addsE(23, "a", 1, 4), dropsIt(9)), 9, -20, -21, -22, -23)
	wantElems(t, "with an edge that is added behind", writes(t, g, dropsIt(9), addsE(20, "a", 9, 9)), 9, -20)
	wantElems(t, "in another graph", writes(t, api.Graph{}, dropsIt(1)), 1)
	wantElems(t, "dropped twice", writes(t, g, dropsIt(9), addsV(9, "a"), dropsIt(9)), 9)
}

// P13.4: any graph as it stands, changes of anything; what is no element is not written.
func TestWritesOfAny(t *testing.T) {
	r := rand.New(rand.NewSource(5))
	all := append(may(), mayNot()[5:12]...)
	for range 3000 {
		g, l := all[r.Intn(len(all))], wildChanges(r, 6)
		if got, want := tellValues(writes(t, g, l...)), tellValues(writing(g, l)); got != want {
			t.Fatalf("Writes of %s\nin %s:\ngot  %s\nwant %s", tellChanges(l), tell(g), got, want)
		}
	}
	for _, elem := range wildElems() {
		for kind := -1; kind <= 8; kind++ {
			var want []int64
			if isElemSo(elem) && kind != api.ChLast {
				want = append(want, elem.N*int64(13-2*elem.Kind))
			}
			l := []api.Change{{Kind: kind, Elem: elem, Label: "a", Name: "b", Value: value.Vertex(7)}}
			wantElems(t, tellChanges(l), writes(t, api.Graph{}, l...), want...)
		}
	}
}

// P13.4: the vertices that edges go out of and come into, each once, by ids.
func TestNeeds(t *testing.T) {
	wantElems(t, "none", needs(t))
	wantElems(t, "one", needs(t, addsE(20, "a", 1, 2)), 1, 2)
	wantElems(t, "falling", needs(t, addsE(20, "a", 2, 1)), 1, 2)
	wantElems(t, "a loop", needs(t, addsE(20, "a", 3, 3)), 3)
	wantElems(t, "several", needs(t, addsE(20, "a", 9, 2), addsV(5, "a"), addsE(21, "a", 2, api.MaxId), addsE(22, "a", 1, 9)), 1, 2, 9, api.MaxId)
	wantElems(t, "one that is added", needs(t, addsV(5, "a"), addsE(20, "a", 5, 1)), 1, 5)
	wantElems(t, "others", needs(t, addsV(1, "a"), sets(2, "a", value.Vertex(7)), sets(-2, "a", value.Int(1)), unsets(3, "a"), dropsIt(4), dropsIt(-5), lastIs(6)))
}

// P13.4: changes of anything; an id that is none is no vertex.
func TestNeedsOfAny(t *testing.T) {
	r := rand.New(rand.NewSource(6))
	for range 3000 {
		l := wildChanges(r, 6)
		if got, want := tellValues(needs(t, l...)), tellValues(needing(l)); got != want {
			t.Fatalf("Needs of %s:\ngot  %s\nwant %s", tellChanges(l), got, want)
		}
	}
	for _, id := range wildIds() {
		for kind := -1; kind <= 8; kind++ {
			var out, in []int64
			if kind == api.ChAddE && id >= 1 && id <= api.MaxId {
				out, in = []int64{1, id}, []int64{id, 1}
				slices.Sort(out)
				slices.Sort(in)
			} else if kind == api.ChAddE {
				out, in = []int64{1}, []int64{1}
			}
			wantElems(t, "Out", needs(t, api.Change{Kind: kind, Out: id, In: 1}), slices.Compact(out)...)
			wantElems(t, "In", needs(t, api.Change{Kind: kind, Out: 1, In: id}), slices.Compact(in)...)
		}
	}
}

// wantConflict holds both orders against what is wanted.
func wantConflict(t *testing.T, what string, g api.Graph, a, b Changes, want bool) {
	t.Helper()
	if conflict(t, g, a, b) != want || conflict(t, g, b, a) != want {
		t.Fatalf("%s: Conflict is not %v of\n%s\nand\n%s\nin %s", what, want, tellChanges(a), tellChanges(b), tell(g))
	}
}

// P13.4: elements of one id are written by both, or a vertex that one needs is dropped or added by the other; in both orders.
func TestConflict(t *testing.T) {
	g := sample()
	one := value.Int(1)
	for _, c := range []struct {
		what string
		a, b Changes
		want bool
	}{
		{"nothing", nil, nil, false},
		{"nothing on one side", nil, Changes{dropsIt(1)}, false},
		{"a property of one vertex", Changes{sets(1, "a", one)}, Changes{sets(1, "b", one)}, true},
		{"properties of two", Changes{sets(1, "a", one)}, Changes{sets(2, "a", one)}, false},
		{"one that is not there", Changes{unsets(1, "zz")}, Changes{unsets(1, "zz")}, true},
		{"a property of one edge", Changes{sets(-3, "a", one)}, Changes{unsets(-3, "b")}, true},
		{"an edge, a vertex of one id", Changes{addsV(20, "a")}, Changes{addsE(20, "a", 1, 2)}, true},
		{"another edge, a vertex of that id", Changes{unsets(-1, "a")}, Changes{unsets(1, "a")}, true},
		{"two of other ids added", Changes{addsV(20, "a")}, Changes{addsV(21, "a")}, false},
		{"one id added twice", Changes{addsV(20, "a")}, Changes{addsV(20, "a")}, true},
		{"behind others", Changes{sets(1, "a", one), lastIs(30), unsets(9, "a")}, Changes{sets(2, "a", one), dropsIt(9)}, true},
		{"Last", Changes{lastIs(30)}, Changes{lastIs(30)}, false},
		{"a vertex dropped, an edge of it set", Changes{dropsIt(1)}, Changes{sets(-5, "a", one)}, true},
		{"a vertex dropped, another edge set", Changes{dropsIt(1)}, Changes{sets(-8, "a", one)}, false},
		{"two vertices dropped, an edge between", Changes{dropsIt(1)}, Changes{dropsIt(4)}, true},
		{"two vertices dropped, none between", Changes{dropsIt(9)}, Changes{dropsIt(4)}, false},
		{"a vertex dropped that is needed", Changes{dropsIt(9)}, Changes{addsE(20, "a", 9, 1)}, true},
		{"likewise as In", Changes{dropsIt(9)}, Changes{addsE(20, "a", 1, 9)}, true},
		{"an edge dropped of the id that is needed", Changes{dropsIt(-9)}, Changes{addsE(20, "a", 9, 1)}, false},
		{"a vertex added that is needed", Changes{addsV(20, "a")}, Changes{addsE(21, "a", 1, 20)}, true},
		{"an edge added of the id that is needed", Changes{addsE(20, "a", 1, 2)}, Changes{addsE(21, "a", 1, 20)}, false},
		{"a vertex set that is needed", Changes{sets(9, "a", one), unsets(9, "b")}, Changes{addsE(20, "a", 9, 9)}, false},
		{"both need one", Changes{addsE(20, "a", 9, 9)}, Changes{addsE(21, "a", 9, 9)}, false},
		{"Last at what is needed", Changes{lastIs(9)}, Changes{addsE(21, "a", 9, 9)}, false},
		{"Last at what is written", Changes{lastIs(9)}, Changes{unsets(9, "a")}, false},
		{"needed and dropped on one side alone", Changes{addsE(20, "a", 9, 9), dropsIt(9)}, Changes{sets(1, "a", one)}, false},
		{"needed by one that drops it", Changes{addsE(20, "a", 9, 1), dropsIt(-20), addsV(30, "a")}, Changes{dropsIt(1)}, true},
		{"an edge that goes with a vertex is added", Changes{dropsIt(1)}, Changes{addsE(5, "a", 2, 2)}, true},
	} {
		wantConflict(t, c.what, g, c.a, c.b, c.want)
	}
	wantConflict(t, "the edges of another graph", api.Graph{}, Changes{dropsIt(1)}, Changes{sets(-5, "a", one)}, false)
}

// P13.4: changes of anything, in any graphs, against the sentence.
func TestConflictOfAny(t *testing.T) {
	r := rand.New(rand.NewSource(7))
	all := append(may(), mayNot()[5:12]...)
	met := map[bool]int{}
	for i := range 4000 {
		g, a, b := all[r.Intn(len(all))], someChanges(r, 3), someChanges(r, 3)
		if i%2 == 0 {
			a, b = wildChanges(r, 3), wildChanges(r, 3)
		}
		want := conflicting(g, a, b)
		wantConflict(t, "any", g, a, b, want)
		met[want]++
	}
	if met[true] < 500 || met[false] < 500 {
		t.Error(met)
	}
	for _, elem := range wildElems() {
		for _, id := range wildIds() {
			a, b := Changes{{Kind: api.ChDrop, Elem: elem}}, Changes{addsE(5, "a", id, 7)}
			wantConflict(t, "any vertex", sample(), a, b, conflicting(sample(), a, b))
		}
	}
}

// P13.4: change by change, field by field.
func TestSame(t *testing.T) {
	all := append(oneOfEach(), api.Change{}, lastIs(10), sets(5, "c", value.Str("6")), sets(5, "c", list(value.Int(6))), sets(5, "c", list(value.Int(7))), sets(5, "c", list()),
		api.Change{Kind: math.MaxInt, Elem: list(list(value.Int(1))), Label: "a", Out: -1, In: math.MinInt64, Name: "\x00", Value: api.Value{N: 1}})
	changes := []func(c *api.Change){
		func(c *api.Change) { c.Kind++ },
		func(c *api.Change) { c.Elem.Kind++ },
		func(c *api.Change) { c.Elem.N++ },
		func(c *api.Change) { c.Elem.S += "a" },
		func(c *api.Change) { c.Elem.L = append([]api.Value{{}}, c.Elem.L...) },
		func(c *api.Change) { c.Label += "a" },
		func(c *api.Change) { c.Out++ },
		func(c *api.Change) { c.In++ },
		func(c *api.Change) { c.Name += "a" },
		func(c *api.Change) { c.Value.Kind++ },
		func(c *api.Change) { c.Value.N++ },
		func(c *api.Change) { c.Value.S += "a" },
		func(c *api.Change) { c.Value.L = append([]api.Value{{}}, c.Value.L...) },
	}
	for i, a := range all {
		for j, b := range all {
			if same(t, Changes{a}, Changes{b}) != (i == j) {
				t.Fatalf("Same of %s and %s", tellChange(a), tellChange(b))
			}
		}
		for _, change := range changes {
			b := a
			change(&b)
			for _, pair := range [][2]Changes{{{a}, {b}}, {{b}, {a}}, {{a, a}, {a, b}}, {{a, a}, {b, a}}} {
				if same(t, pair[0], pair[1]) {
					t.Fatalf("Same of %s\nand %s", tellChanges(pair[0]), tellChanges(pair[1]))
				}
			}
		}
	}
}

// P13.4: lists of other lengths, in another order; R6: nil and empty ones.
func TestSameOfLists(t *testing.T) {
	all := Changes(oneOfEach())
	if !same(t, all, oneOfEach()) || !same(t, nil, nil) || !same(t, nil, Changes{}) || !same(t, Changes{}, nil) {
		t.Fatal("Same of the same")
	}
	for i := range all {
		if same(t, all, all[:i]) || same(t, all[:i], all) {
			t.Fatalf("Same of the first %d", i)
		}
		other := slices.Clone(all)
		slices.Reverse(other[i:])
		if i < len(all)-1 && same(t, all, other) {
			t.Fatalf("Same of another order from %d on", i)
		}
	}
	empty := sets(1, "a", list())
	withList := empty
	withList.Value.L, withList.Elem.L = []api.Value{}, []api.Value{}
	if !same(t, Changes{empty}, Changes{withList}) {
		t.Fatal("Same of empty lists")
	}
}
