package delta

import (
	"ramble/api"
	"ramble/graph"
	"ramble/value"
)

// Diff are changes that make a into b, as long as b's Last is not below a's; none, if one of the two may not be.
func Diff(a, b api.Graph) Changes {
	if graph.Check(a) != api.OK || graph.Check(b) != api.OK {
		return nil
	}
	stay := staying(a, draftOf(b))
	l := append(drops(a, stay), adds(b, stay)...)
	l = append(l, propsOf(b, stay)...)
	if b.Last > lastBehind(a, l) {
		l = append(l, api.Change{Kind: api.ChLast, Out: b.Last})
	}
	return l
}

// staying are the elements of a that b has, too, but for their properties: a vertex with its label; an edge with its label and its ends, both of which stay.
func staying(a api.Graph, b *draft) *draft {
	stay := draftOf(api.Graph{})
	for _, v := range a.V {
		if other, is := b.v[v.Id]; is && other.Label == v.Label {
			stay.v[v.Id] = v
		}
	}
	for _, l := range a.E {
		other, is := b.e[l.Id]
		is = is && other.Label == l.Label && other.Out == l.Out && other.In == l.In
		if is && stay.hasVertex(l.Out) && stay.hasVertex(l.In) {
			stay.e[l.Id] = l
		}
	}
	return stay
}

// drops take away what a has and what does not stay. The edges go ahead of the vertices, with which they would go else.
func drops(a api.Graph, stay *draft) Changes {
	var l Changes
	for _, x := range a.E {
		if !stay.hasEdge(x.Id) {
			l = append(l, api.Change{Kind: api.ChDrop, Elem: value.Edge(x.Id)})
		}
	}
	for _, x := range a.V {
		if !stay.hasVertex(x.Id) {
			l = append(l, api.Change{Kind: api.ChDrop, Elem: value.Vertex(x.Id)})
		}
	}
	return l
}

// adds bring what b has beside what stays, without properties.
func adds(b api.Graph, stay *draft) Changes {
	var l Changes
	for _, x := range b.V {
		if !stay.hasVertex(x.Id) {
			l = append(l, api.Change{Kind: api.ChAddV, Elem: value.Vertex(x.Id), Label: x.Label})
		}
	}
	for _, x := range b.E {
		if !stay.hasEdge(x.Id) {
			l = append(l, api.Change{Kind: api.ChAddE, Elem: value.Edge(x.Id), Label: x.Label, Out: x.Out, In: x.In})
		}
	}
	return l
}

// propsOf make the properties of all elements those that they have in b; what is added had none.
func propsOf(b api.Graph, stay *draft) Changes {
	var l Changes
	for _, x := range b.V {
		l = append(l, propsOfOne(value.Vertex(x.Id), stay.v[x.Id].Props, x.Props)...)
	}
	for _, x := range b.E {
		l = append(l, propsOfOne(value.Edge(x.Id), stay.e[x.Id].Props, x.Props)...)
	}
	return l
}

// propsOfOne make an element's properties, which were old, new ones. What goes goes first, so that there are never more than may be.
func propsOfOne(elem api.Value, old, now []api.Prop) Changes {
	var l Changes
	for _, p := range old {
		if _, is := prop(now, p.Name); !is {
			l = append(l, api.Change{Kind: api.ChUnset, Elem: elem, Name: p.Name})
		}
	}
	for _, p := range now {
		if v, is := prop(old, p.Name); !is || !value.Same(v, p.Value) {
			l = append(l, api.Change{Kind: api.ChSet, Elem: elem, Name: p.Name, Value: value.Clone(p.Value)})
		}
	}
	return l
}

// prop is the value of the property of that name, and whether there is one.
func prop(l []api.Prop, name string) (api.Value, bool) {
	for _, p := range l {
		if p.Name == name {
			return p.Value, true
		}
	}
	return api.Value{}, false
}

// lastBehind is the last id of a behind changes.
func lastBehind(a api.Graph, l Changes) int64 {
	last := a.Last
	for _, c := range l {
		if c.Kind == api.ChAddV || c.Kind == api.ChAddE {
			last = max(last, c.Elem.N)
		}
	}
	return last
}
