package graph

import (
	"slices"
	"strings"

	"ramble/api"
	"ramble/value"
)

// own is g in memory of its own, in which a call may change it; and ErrGraph, if it may not be.
func own(g api.Graph) (api.Graph, api.Errno) { return Clone(g), Check(g) }

// AddV is g with one vertex more, and its id.
// ErrGraph, if g may not be; ErrLabel, if label is no name; ErrFull, if there is no room for it. With an error g is as it was.
func AddV(g api.Graph, label string) (api.Graph, int64, api.Errno) {
	g, e := own(g)
	switch {
	case e != api.OK:
		return g, 0, e
	case !value.Name(label):
		return g, 0, api.ErrLabel
	case len(g.V) >= api.MaxElems || g.Last >= api.MaxId:
		return g, 0, api.ErrFull
	}
	g.Last++
	g.V = append(g.V, api.Vertex{Id: g.Last, Label: label})
	return g, g.Last, api.OK
}

// AddE is g with one edge more, from the vertex out to the vertex in, and its id.
// ErrGraph, if g may not be; ErrLabel, if label is no name; ErrElem, if one of the vertices there is not; ErrFull, if there is no room for it. With an error g is as it was.
func AddE(g api.Graph, label string, out, in int64) (api.Graph, int64, api.Errno) {
	g, e := own(g)
	switch {
	case e != api.OK:
		return g, 0, e
	case !value.Name(label):
		return g, 0, api.ErrLabel
	case !hasVertex(g, out) || !hasVertex(g, in):
		return g, 0, api.ErrElem
	case len(g.E) >= api.MaxElems || g.Last >= api.MaxId:
		return g, 0, api.ErrFull
	}
	g.Last++
	g.E = append(g.E, api.Link{Id: g.Last, Label: label, Out: out, In: in})
	return g, g.Last, api.OK
}

// Set is g in which an element has that property with that value.
// ErrGraph, if g may not be; ErrElem, if the element there is not; ErrLabel, if name is no name; ErrValue, if v may not be; ErrProps, if the element has as many others as may be. With an error g is as it was.
func Set(g api.Graph, elem api.Value, name string, v api.Value) (api.Graph, api.Errno) {
	g, e := own(g)
	if e != api.OK {
		return g, e
	}
	props := propsIn(&g, elem)
	if props == nil {
		return g, api.ErrElem
	}
	if !value.Name(name) {
		return g, api.ErrLabel
	}
	if e := value.Check(v); e != api.OK {
		return g, e
	}
	at, is := place(*props, name)
	switch {
	case is:
		(*props)[at].Value = value.Clone(v)
	case len(*props) >= api.MaxProps:
		return g, api.ErrProps
	default:
		*props = putBetween(*props, at, api.Prop{Name: name, Value: value.Clone(v)})
	}
	return g, api.OK
}

// Unset is g in which an element does not have that property, and whether it had it.
// ErrGraph, if g may not be; ErrElem, if the element there is not. With an error g is as it was.
func Unset(g api.Graph, elem api.Value, name string) (api.Graph, bool, api.Errno) {
	g, e := own(g)
	if e != api.OK {
		return g, false, e
	}
	props := propsIn(&g, elem)
	if props == nil {
		return g, false, api.ErrElem
	}
	_, is := place(*props, name)
	*props = without(*props, func(p api.Prop) bool { return p.Name == name })
	return g, is, api.OK
}

// Drop is g without an element, and, if that is a vertex, without its edges.
// ErrGraph, if g may not be; ErrElem, if the element there is not. With an error g is as it was.
func Drop(g api.Graph, elem api.Value) (api.Graph, api.Errno) {
	g, e := own(g)
	if e != api.OK {
		return g, e
	}
	if propsIn(&g, elem) == nil {
		return g, api.ErrElem
	}
	id := elem.N
	if elem.Kind == api.VVertex {
		g.V = without(g.V, func(v api.Vertex) bool { return v.Id == id })
		g.E = without(g.E, func(l api.Link) bool { return l.Out == id || l.In == id })
	} else {
		g.E = without(g.E, func(l api.Link) bool { return l.Id == id })
	}
	return g, api.OK
}

// propsIn is where an element's properties stand in g, so that they are changed there; nil, if there is no such element.
func propsIn(g *api.Graph, elem api.Value) *[]api.Prop {
	switch elem.Kind {
	case api.VVertex:
		for i := range g.V {
			if isThat(elem, g.V[i].Id) {
				return &g.V[i].Props
			}
		}
	case api.VEdge:
		for i := range g.E {
			if isThat(elem, g.E[i].Id) {
				return &g.E[i].Props
			}
		}
	}
	return nil
}

// place is where the property of that name stands among those whose names rise, or would stand; and whether it is there.
func place(l []api.Prop, name string) (int, bool) {
	return slices.BinarySearchFunc(l, name, func(p api.Prop, name string) int { return strings.Compare(p.Name, name) })
}

// putBetween is l with p at that place, and those behind it one further on.
func putBetween(l []api.Prop, at int, p api.Prop) []api.Prop {
	out := make([]api.Prop, len(l)+1)
	copy(out, l[:at])
	out[at] = p
	copy(out[at+1:], l[at:])
	return out
}

// without is l without those that go; nil, if none is left, as an empty list is everywhere here.
func without[T any](l []T, goes func(T) bool) []T {
	var out []T
	for _, x := range l {
		if !goes(x) {
			out = append(out, x)
		}
	}
	return out
}
