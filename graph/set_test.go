package graph

import (
	"fmt"
	"strings"
	"testing"

	"ramble/api"
	"ramble/value"
)

// propsAt are an element's properties in g, to be changed there.
func propsAt(g *api.Graph, elem api.Value) *[]api.Prop {
	if elem.S != "" || len(elem.L) > 0 {
		return nil
	}
	for i := range g.V {
		if elem.Kind == api.VVertex && g.V[i].Id == elem.N {
			return &g.V[i].Props
		}
	}
	for i := range g.E {
		if elem.Kind == api.VEdge && g.E[i].Id == elem.N {
			return &g.E[i].Props
		}
	}
	return nil
}

// P10.2: Set of a property that there is, and of one ahead of, between and behind others.
func TestSet(t *testing.T) {
	old, x := value.Int(1), list(value.Str("new"), list(value.Vertex(9)))
	has := []api.Prop{p("B", old), p("b", old), p("d", old)}
	for name, want := range map[string][]api.Prop{
		"A":            {p("A", x), p("B", old), p("b", old), p("d", old)},
		"B":            {p("B", x), p("b", old), p("d", old)},
		"_":            {p("B", old), p("_", x), p("b", old), p("d", old)},
		"a":            {p("B", old), p("a", x), p("b", old), p("d", old)},
		"b":            {p("B", old), p("b", x), p("d", old)},
		"c":            {p("B", old), p("b", old), p("c", x), p("d", old)},
		"d":            {p("B", old), p("b", old), p("d", x)},
		"d0":           {p("B", old), p("b", old), p("d", old), p("d0", x)},
		long("z", 24):  {p("B", old), p("b", old), p("d", old), p(long("z", 24), x)},
		long("b0", 24): {p("B", old), p("b", old), p(long("b0", 24), x), p("d", old)},
	} {
		for _, elem := range []api.Value{value.Vertex(1), value.Vertex(4), value.Vertex(9), value.Edge(3), value.Edge(7), value.Edge(10)} {
			g, h := sample(), sample()
			*propsAt(&g, elem), *propsAt(&h, elem) = has, want
			got, e := set(t, g, elem, name, x)
			wantErr(t, "Set", e, api.OK)
			wantGraph(t, "Set of "+name, got, h)
			*propsAt(&h, elem) = []api.Prop{p(name, x)}
			*propsAt(&g, elem) = nil
			got, e = set(t, g, elem, name, x)
			wantErr(t, "Set of the first property", e, api.OK)
			wantGraph(t, "Set of "+name, got, h)
		}
	}
}

// P10.2: any value that may be, in the place of any other one, also of the same.
func TestSetOfValues(t *testing.T) {
	l := []api.Value{
		value.Int(0), value.Int(-5), value.Str(""), value.Str(strings.Repeat("x", 128)), value.Bool(true), value.Bool(false), list(), within(7),
		{Kind: api.VMap, L: []api.Value{value.Int(1), list(value.Int(2))}}, value.Vertex(1), value.Vertex(api.MaxId), value.Edge(77),
	}
	for _, x := range l {
		for _, y := range l {
			g, _ := set(t, sample(), value.Vertex(9), "a", x)
			g, e := set(t, g, value.Vertex(9), "a", y)
			wantErr(t, "Set", e, api.OK)
			want := sample()
			want.V[3].Props = []api.Prop{p("a", y)}
			wantGraph(t, "Set", g, want)
		}
	}
}

// P10.2: MaxProps others are too many, MaxProps with the one that is set are not.
func TestSetOfManyProps(t *testing.T) {
	x := value.Str("new")
	for _, elem := range []api.Value{value.Vertex(2), value.Edge(5)} {
		g := sample()
		*propsAt(&g, elem) = propsNamed("b", 16)
		for i := range 16 {
			want := sample()
			*propsAt(&want, elem) = propsNamed("b", 16)
			(*propsAt(&want, elem))[i].Value = x
			got, e := set(t, g, elem, fmt.Sprintf("b%02d", i), x)
			wantErr(t, "Set of one of MaxProps", e, api.OK)
			wantGraph(t, "Set", got, want)
		}
		for _, name := range []string{"a", "b", "b001", "b0_", "b16", "c"} {
			got, e := set(t, g, elem, name, x)
			wantErr(t, "Set with MaxProps others", e, api.ErrProps)
			wantGraph(t, "Set", got, g)
		}
		*propsAt(&g, elem) = propsNamed("b", 15)
		for i, name := range []string{"a", "b00_", "b15"} {
			got, e := set(t, g, elem, name, x)
			wantErr(t, "Set with one fewer", e, api.OK)
			at := []int{0, 1, 15}[i]
			if l := *propsAt(&got, elem); len(l) != 16 || l[at].Name != name || Check(got) != api.OK {
				t.Fatalf("Set of %s: %v", name, l)
			}
		}
	}
}

// P10.2: what Set refuses, in its order; the graph is as it was then.
func TestSetRefuses(t *testing.T) {
	g := sample()
	g.V[0].Props = propsNamed("b", 16)
	refused := func(want api.Errno, elem api.Value, name string, x api.Value) {
		t.Helper()
		h, e := set(t, g, elem, name, x)
		wantErr(t, "Set of "+tellValue(elem)+" "+name, e, want)
		wantGraph(t, "Set", h, g)
	}
	values := append(badValues(), value.Int(1))
	none := append(append(noElems(), withFields()...), value.Vertex(3), value.Edge(1), value.Vertex(0), value.Edge(0), value.Vertex(-1), value.Vertex(12), value.Edge(13))
	for _, x := range values {
		for _, elem := range none {
			refused(api.ErrElem, elem, "a", x)
			refused(api.ErrElem, elem, "9", x)
		}
		for _, name := range noNames() {
			refused(api.ErrLabel, value.Vertex(1), name, x)
			refused(api.ErrLabel, value.Vertex(9), name, x)
			refused(api.ErrLabel, value.Edge(3), name, x)
		}
	}
	for _, x := range badValues() {
		refused(api.ErrValue, value.Vertex(1), "a", x)
		refused(api.ErrValue, value.Vertex(1), "b00", x)
		refused(api.ErrValue, value.Vertex(9), "a", x)
		refused(api.ErrValue, value.Edge(6), "age", x)
	}
	refused(api.ErrProps, value.Vertex(1), "a", value.Int(1))
}

// P10.2: Unset of each property that there is, and of names that there are not, or that are none.
func TestUnset(t *testing.T) {
	for _, g := range may() {
		for _, elem := range elemsFor(g) {
			at := propsAt(&g, elem)
			if at == nil {
				h, is, e := unset(t, g, elem, "a")
				wantErr(t, "Unset of "+tellValue(elem), e, api.ErrElem)
				wantGraph(t, "Unset", h, g)
				if is {
					t.Fatal("Unset: true beside an error")
				}
				continue
			}
			for i, x := range *at {
				want := clone(t, g)
				l := propsAt(&want, elem)
				*l = append(append([]api.Prop{}, (*l)[:i]...), (*l)[i+1:]...)
				wantUnset(t, g, want, elem, x.Name, true)
			}
			for _, name := range append(noNames(), "zz", "A_", "a_", "name_") {
				wantUnset(t, g, g, elem, name, false)
			}
		}
	}
}

func wantUnset(t *testing.T, g, want api.Graph, elem api.Value, name string, was bool) {
	t.Helper()
	h, is, e := unset(t, g, elem, name)
	wantErr(t, "Unset of "+name, e, api.OK)
	wantGraph(t, "Unset of "+name, h, want)
	if is != was || !mayBe(h) {
		t.Fatalf("Unset of %s: %v, and %s", name, is, tell(h))
	}
}

// P10.2, R6: an element whose last property is gone is as one that never had any.
func TestUnsetOfTheOnlyOne(t *testing.T) {
	g, is, _ := unset(t, sample(), value.Vertex(4), "name")
	if x, _ := V(g, 4); !is || x.Props != nil || g.V[2].Props != nil {
		t.Errorf("%v, %v", is, x)
	}
}
