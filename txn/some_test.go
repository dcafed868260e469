package txn

import (
	"fmt"
	"math"
	"math/rand"
	"strings"

	"ramble/api"
	"ramble/value"
)

// v and e are a vertex and an edge with properties, p a property.
func v(id int64, label string, props ...api.Prop) api.Vertex {
	return api.Vertex{Id: id, Label: label, Props: props}
}

func e(id int64, label string, out, in int64, props ...api.Prop) api.Link {
	return api.Link{Id: id, Label: label, Out: out, In: in, Props: props}
}

func p(name string, v api.Value) api.Prop { return api.Prop{Name: name, Value: v} }

// The changes, one of each kind; elem is an id, and below 0 that of an edge.
func addsV(id int64, label string) api.Change {
	return api.Change{Kind: api.ChAddV, Elem: value.Vertex(id), Label: label}
}

func addsE(id int64, label string, out, in int64) api.Change {
	return api.Change{Kind: api.ChAddE, Elem: value.Edge(id), Label: label, Out: out, In: in}
}

func sets(elem int64, name string, v api.Value) api.Change {
	return api.Change{Kind: api.ChSet, Elem: elemOf(elem), Name: name, Value: v}
}

func unsets(elem int64, name string) api.Change {
	return api.Change{Kind: api.ChUnset, Elem: elemOf(elem), Name: name}
}

func drops(elem int64) api.Change { return api.Change{Kind: api.ChDrop, Elem: elemOf(elem)} }

func lastIs(id int64) api.Change { return api.Change{Kind: api.ChLast, Out: id} }

func elemOf(id int64) api.Value {
	if id < 0 {
		return value.Edge(-id)
	}
	return value.Vertex(id)
}

func list(l ...api.Value) api.Value { return api.Value{Kind: api.VList, L: l} }

// sample is a graph in which edges go to and fro, and from a vertex to itself; ids are missing, and the last one that was given is gone.
func sample() api.Graph {
	return api.Graph{
		V: []api.Vertex{
			v(1, "person", p("age", value.Int(30)), p("name", value.Str("ann"))),
			v(2, "person", p("age", value.Int(40)), p("friends", list(value.Vertex(1), list(value.Edge(5)))), p("name", value.Str("bob"))),
			v(4, "city", p("name", value.Str("rome"))),
			v(9, "person"),
		},
		E: []api.Link{
			e(3, "knows", 1, 2, p("since", value.Int(1999))),
			e(5, "knows", 2, 1),
			e(6, "lives", 1, 4, p("what", list(value.Str("a"), list(value.Str("b"))))),
			e(8, "likes", 2, 2),
			e(10, "lives", 2, 4),
		},
		Last: 12,
	}
}

// full is a graph of that many vertices, and that many edges behind them, each from one to the next one.
func full(vertices, edges int) api.Graph {
	g := api.Graph{Last: int64(vertices + edges)}
	for i := range vertices {
		g.V = append(g.V, v(int64(i+1), "a"))
	}
	for i := range edges {
		g.E = append(g.E, e(int64(vertices+i+1), "b", int64(i%vertices+1), int64((i+1)%vertices+1)))
	}
	return g
}

// loose is a graph of that many vertices, and no edges.
func loose(vertices int) api.Graph { return full(vertices, 0) }

// mayNot are graphs that may not be: each has one fault.
func mayNot() []api.Graph {
	faults := []func(g *api.Graph){
		func(g *api.Graph) { *g = api.Graph{Last: -1} },
		func(g *api.Graph) { g.Last = api.MaxId + 1 },
		func(g *api.Graph) { g.Last = 9 },
		func(g *api.Graph) { *g = full(api.MaxElems+1, 0) },
		func(g *api.Graph) { *g = full(1, api.MaxElems+1) },
		func(g *api.Graph) { g.V[0], g.V[1] = g.V[1], g.V[0] },
		func(g *api.Graph) { g.E[1].Id = 4 },
		func(g *api.Graph) { g.E[0].Out = 11 },
		func(g *api.Graph) { g.V[2].Label = "9" },
		func(g *api.Graph) { g.V[0].Props[1].Name = "age" },
		func(g *api.Graph) { g.E[2].Props[0].Value = value.Vertex(0) },
	}
	var l []api.Graph
	for _, fault := range faults {
		g := sample()
		fault(&g)
		l = append(l, g)
	}
	return l
}

// wildNumbers are numbers that no transaction, and no version, of a few has.
func wildNumbers() []int64 {
	return []int64{math.MinInt64, math.MinInt64 + 1, -1 << 32, -2, -1, 1 << 32, 1<<32 + 1, math.MaxInt64 - 1, math.MaxInt64}
}

// badChanges are changes that are none, or that can't be done in the sample, and the errors of these.
func badChanges() map[api.Errno][]api.Change {
	withOut := addsV(20, "a")
	withOut.Out = 1
	return map[api.Errno][]api.Change{
		api.ErrChange: {{}, {Kind: -1}, {Kind: 7}, {Kind: math.MinInt}, withOut, addsV(0, "a"), addsV(20, "9"), addsE(api.MaxId+1, "a", 1, 1), addsE(20, "a", 0, 1), lastIs(0), sets(1, "a", api.Value{})},
		api.ErrTwice:  {addsV(1, "a"), addsV(3, "a"), addsE(1, "a", 1, 1), addsE(3, "a", 1, 1)},
		api.ErrElem:   {addsE(20, "a", 1, 3), addsE(20, "a", 7, 1), sets(3, "a", value.Int(1)), sets(-1, "a", value.Int(1)), unsets(12, "a"), drops(7), drops(-12)},
	}
}

// someChange is a change that may be, of few ids.
func someChange(r *rand.Rand) api.Change {
	id := func() int64 { return 1 + int64(r.Intn(9)) }
	elem := id() * int64(1-2*r.Intn(2))
	switch r.Intn(9) {
	case 0, 1:
		return addsV(id(), []string{"a", "b"}[r.Intn(2)])
	case 2, 3:
		return addsE(id(), []string{"a", "b"}[r.Intn(2)], id(), id())
	case 4, 5:
		return sets(elem, []string{"x", "y"}[r.Intn(2)], someValue(r))
	case 6:
		return unsets(elem, []string{"x", "y"}[r.Intn(2)])
	case 7:
		return drops(elem)
	}
	return lastIs(id() + 4)
}

func someValue(r *rand.Rand) api.Value {
	switch r.Intn(3) {
	case 0:
		return value.Str("s")
	case 1:
		return list(value.Int(1), list(value.Vertex(1)))
	}
	return value.Int(int64(r.Intn(3)))
}

// tell is all that a graph has as a text, in which nil and empty lists are the same.
func tell(g api.Graph) string {
	var s strings.Builder
	fmt.Fprintf(&s, "last %d", g.Last)
	for _, x := range g.V {
		fmt.Fprintf(&s, "\nv %d %q%s", x.Id, x.Label, tellProps(x.Props))
	}
	for _, x := range g.E {
		fmt.Fprintf(&s, "\ne %d %q %d %d%s", x.Id, x.Label, x.Out, x.In, tellProps(x.Props))
	}
	return s.String()
}

func tellProps(l []api.Prop) string {
	s := ""
	for _, x := range l {
		s += fmt.Sprintf(" %q: %s", x.Name, tellValue(x.Value))
	}
	return s
}

// tellValue tells all fields, whatever the kind is.
func tellValue(x api.Value) string {
	s := fmt.Sprintf("(%d %d %q", x.Kind, x.N, x.S)
	for _, y := range x.L {
		s += " " + tellValue(y)
	}
	return s + ")"
}

func tellChanges(l []api.Change) string {
	s := fmt.Sprintf("%d changes", len(l))
	for _, c := range l {
		s += fmt.Sprintf("\n%d %s %q %d %d %q %s", c.Kind, tellValue(c.Elem), c.Label, c.Out, c.In, c.Name, tellValue(c.Value))
	}
	return s
}
