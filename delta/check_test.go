package delta

import (
	"math"
	"math/rand"
	"testing"

	"ramble/api"
	"ramble/value"
)

// oneOfEach is a change of each kind that may be.
func oneOfEach() []api.Change {
	return []api.Change{
		addsV(1, "a"), addsE(2, "b", 3, 4), sets(5, "c", value.Int(6)), sets(-5, "c", value.Str("x")),
		unsets(7, "d"), unsets(-7, "d"), dropsIt(8), dropsIt(-8), lastIs(9),
	}
}

// mayBeSo is the chapter's sentence of changes that may be, word by word.
func mayBeSo(c api.Change) bool {
	isV, isE := c.Elem.Kind == api.VVertex, c.Elem.Kind == api.VEdge
	elem := c.Elem.N >= 1 && c.Elem.N <= 1<<48 && c.Elem.S == "" && len(c.Elem.L) == 0
	noElem := tellValue(c.Elem) == tellValue(api.Value{})
	noLabel, noOut, noIn, noName := c.Label == "", c.Out == 0, c.In == 0, c.Name == ""
	noValue := tellValue(c.Value) == tellValue(api.Value{})
	label, name := value.Name(c.Label), value.Name(c.Name)
	out, in := c.Out >= 1 && c.Out <= 1<<48, c.In >= 1 && c.In <= 1<<48
	switch c.Kind {
	case 1:
		return isV && elem && label && noOut && noIn && noName && noValue
	case 2:
		return isE && elem && label && out && in && noName && noValue
	case 3:
		return (isV || isE) && elem && noLabel && noOut && noIn && name && value.Check(c.Value) == api.OK
	case 4:
		return (isV || isE) && elem && noLabel && noOut && noIn && name && noValue
	case 5:
		return (isV || isE) && elem && noLabel && noOut && noIn && noName && noValue
	case 6:
		return noElem && noLabel && out && noIn && noName && noValue
	}
	return false
}

func wantChecked(t *testing.T, c api.Change) {
	t.Helper()
	want := api.OK
	if !mayBeSo(c) {
		want = api.ErrChange
	}
	wantErr(t, "Check of "+tellChange(c), check(t, c), want)
}

// P13.1: a change of each kind, with what stands behind its kind.
func TestCheck(t *testing.T) {
	for _, c := range oneOfEach() {
		wantErr(t, tellChange(c), check(t, c), api.OK)
	}
	wantErr(t, "no change", check(t, api.Change{}), api.ErrChange)
}

// P13.1: kinds that are none, with the fields of those that are.
func TestCheckOfKinds(t *testing.T) {
	for _, kind := range []int{math.MinInt, -1, 0, 7, 8, 257, math.MaxInt} {
		for _, c := range append(oneOfEach(), api.Change{}) {
			c.Kind = kind
			wantErr(t, tellChange(c), check(t, c), api.ErrChange)
		}
	}
	for kind := 1; kind <= 6; kind++ {
		for _, c := range append(oneOfEach(), api.Change{}) {
			c.Kind = kind
			wantChecked(t, c)
		}
	}
}

// P13.1: each field that is to be zero, and is not.
func TestCheckOfFieldsThatAreNotItsOwn(t *testing.T) {
	fills := []func(c *api.Change){
		func(c *api.Change) { c.Elem = value.Vertex(1) },
		func(c *api.Change) { c.Elem = value.Edge(1) },
		func(c *api.Change) { c.Elem = api.Value{N: 1} },
		func(c *api.Change) { c.Elem = api.Value{S: "a"} },
		func(c *api.Change) { c.Elem = api.Value{L: []api.Value{{}}} },
		func(c *api.Change) { c.Elem = api.Value{Kind: -1} },
		func(c *api.Change) { c.Label = "a" },
		func(c *api.Change) { c.Label = "\x00" },
		func(c *api.Change) { c.Out = 1 },
		func(c *api.Change) { c.Out = -1 },
		func(c *api.Change) { c.In = 1 },
		func(c *api.Change) { c.In = math.MinInt64 },
		func(c *api.Change) { c.Name = "a" },
		func(c *api.Change) { c.Name = "\x00" },
		func(c *api.Change) { c.Value = value.Int(0) },
		func(c *api.Change) { c.Value = api.Value{N: 1} },
		func(c *api.Change) { c.Value = api.Value{S: "a"} },
		func(c *api.Change) { c.Value = api.Value{L: []api.Value{{}}} },
	}
	for _, c := range oneOfEach() {
		for _, fill := range fills {
			other := c
			fill(&other)
			wantChecked(t, other)
		}
	}
	// By hand, what each kind does not have.
	for _, c := range []api.Change{
		{Kind: api.ChAddV, Elem: value.Vertex(1), Label: "a", Out: 1},
		{Kind: api.ChAddV, Elem: value.Vertex(1), Label: "a", In: 1},
		{Kind: api.ChAddV, Elem: value.Vertex(1), Label: "a", Name: "a"},
		{Kind: api.ChAddV, Elem: value.Vertex(1), Label: "a", Value: value.Int(1)},
		{Kind: api.ChAddE, Elem: value.Edge(1), Label: "a", Out: 1, In: 1, Name: "a"},
		{Kind: api.ChAddE, Elem: value.Edge(1), Label: "a", Out: 1, In: 1, Value: value.Int(1)},
		{Kind: api.ChSet, Elem: value.Vertex(1), Name: "a", Value: value.Int(1), Label: "a"},
		{Kind: api.ChSet, Elem: value.Vertex(1), Name: "a", Value: value.Int(1), Out: 1},
		{Kind: api.ChSet, Elem: value.Vertex(1), Name: "a", Value: value.Int(1), In: 1},
		{Kind: api.ChUnset, Elem: value.Edge(1), Name: "a", Value: value.Int(1)},
		{Kind: api.ChUnset, Elem: value.Edge(1), Name: "a", Label: "a"},
		{Kind: api.ChUnset, Elem: value.Edge(1), Name: "a", Out: 1},
		{Kind: api.ChUnset, Elem: value.Edge(1), Name: "a", In: 1},
		{Kind: api.ChDrop, Elem: value.Edge(1), Label: "a"},
		{Kind: api.ChDrop, Elem: value.Edge(1), Out: 1},
		{Kind: api.ChDrop, Elem: value.Edge(1), In: 1},
		{Kind: api.ChDrop, Elem: value.Edge(1), Name: "a"},
		{Kind: api.ChDrop, Elem: value.Edge(1), Value: value.Int(1)},
		{Kind: api.ChLast, Out: 1, Elem: value.Vertex(1)},
		{Kind: api.ChLast, Out: 1, Label: "a"},
		{Kind: api.ChLast, Out: 1, In: 1},
		{Kind: api.ChLast, Out: 1, Name: "a"},
		{Kind: api.ChLast, Out: 1, Value: value.Int(1)},
	} {
		wantErr(t, tellChange(c), check(t, c), api.ErrChange)
	}
}

// P13.1: elements of the other kind, at the edges of ids, and with other fields.
func TestCheckOfElems(t *testing.T) {
	for _, c := range oneOfEach() {
		for _, elem := range wildElems() {
			c.Elem = elem
			wantChecked(t, c)
		}
	}
	for _, id := range []int64{1, 2, api.MaxId - 1, api.MaxId} {
		for _, c := range []api.Change{addsV(id, "a"), addsE(id, "a", 1, 1), sets(id, "a", value.Int(1)), sets(-id, "a", value.Int(1)), unsets(id, "a"), unsets(-id, "a"), dropsIt(id), dropsIt(-id)} {
			wantErr(t, tellChange(c), check(t, c), api.OK)
		}
	}
	for _, c := range []api.Change{
		{Kind: api.ChAddV, Elem: value.Edge(1), Label: "a"}, {Kind: api.ChAddE, Elem: value.Vertex(1), Label: "a", Out: 1, In: 1},
		{Kind: api.ChAddV, Elem: value.Vertex(0), Label: "a"}, {Kind: api.ChAddE, Elem: value.Edge(api.MaxId + 1), Label: "a", Out: 1, In: 1},
		{Kind: api.ChDrop, Elem: value.Vertex(0)}, {Kind: api.ChDrop, Elem: value.Edge(-1)}, {Kind: api.ChDrop, Elem: value.Int(1)}, {Kind: api.ChDrop},
		{Kind: api.ChDrop, Elem: api.Value{Kind: api.VVertex, N: 1, S: "a"}}, {Kind: api.ChDrop, Elem: api.Value{Kind: api.VEdge, N: 1, L: []api.Value{{}}}},
		{Kind: api.ChSet, Name: "a", Value: value.Int(1)}, {Kind: api.ChUnset, Name: "a"},
	} {
		wantErr(t, tellChange(c), check(t, c), api.ErrChange)
	}
}

// P13.1: labels and names that are none.
func TestCheckOfNames(t *testing.T) {
	for _, s := range names() {
		for _, c := range []api.Change{addsV(1, s), addsE(1, s, 1, 1), sets(1, s, value.Int(1)), unsets(1, s)} {
			wantErr(t, tellChange(c), check(t, c), api.OK)
		}
	}
	for _, s := range noNames() {
		for _, c := range []api.Change{addsV(1, s), addsE(1, s, 1, 1), sets(1, s, value.Int(1)), unsets(1, s)} {
			wantErr(t, tellChange(c), check(t, c), api.ErrChange)
		}
	}
}

// P13.1: Out and In at the edges of ids.
func TestCheckOfEnds(t *testing.T) {
	for _, id := range wildIds() {
		want := api.ErrChange
		if id >= 1 && id <= api.MaxId {
			want = api.OK
		}
		for _, c := range []api.Change{addsE(1, "a", id, 2), addsE(1, "a", 2, id), addsE(1, "a", id, id), lastIs(id)} {
			wantErr(t, tellChange(c), check(t, c), want)
		}
	}
}

// P13.1: values that value.Check takes, and refuses.
func TestCheckOfValues(t *testing.T) {
	for _, x := range goodValues() {
		wantErr(t, tellValue(x), check(t, sets(-1, "a", x)), api.OK)
	}
	for _, x := range append(badValues(), api.Value{}) {
		wantErr(t, tellValue(x), check(t, sets(-1, "a", x)), api.ErrChange)
	}
}

// P13.1: changes of anything.
func TestCheckOfAny(t *testing.T) {
	r := rand.New(rand.NewSource(1))
	for range 4000 {
		wantChecked(t, wildChange(r))
	}
}

// R6: an empty list that is not nil is as nil.
func TestCheckOfEmptyLists(t *testing.T) {
	for _, c := range oneOfEach() {
		c.Elem.L, c.Value.L = []api.Value{}, []api.Value{}
		wantErr(t, tellChange(c), check(t, c), api.OK)
	}
}
