package graph

import (
	"iter"
	"slices"

	"ramble/api"
	"ramble/value"
)

// element is what vertices and edges have in common, as it stands in a graph: what is told of it is cloned.
type element struct {
	id    int64
	label string
	props []api.Prop
}

// elements goes through the elements of a kind, in their order; of another kind there are none.
func elements(g api.Graph, kind int) iter.Seq[element] {
	return func(yield func(element) bool) {
		switch kind {
		case api.VVertex:
			for _, v := range g.V {
				if !yield(element{v.Id, v.Label, v.Props}) {
					return
				}
			}
		case api.VEdge:
			for _, l := range g.E {
				if !yield(element{l.Id, l.Label, l.Props}) {
					return
				}
			}
		}
	}
}

// find is the first element of g that elem is, and whether there is one.
func find(g api.Graph, elem api.Value) (element, bool) {
	for x := range elements(g, elem.Kind) {
		if isThat(elem, x.id) {
			return x, true
		}
	}
	return element{}, false
}

// isThat tells whether elem is, as a value, the element of its kind with that id: one with other fields is no element.
func isThat(elem api.Value, id int64) bool {
	return value.Same(elem, api.Value{Kind: elem.Kind, N: id})
}

// prop is the value of the first property of that name, and whether there is one.
func (x element) prop(name string) (api.Value, bool) {
	for _, p := range x.props {
		if p.Name == name {
			return p.Value, true
		}
	}
	return api.Value{}, false
}

// V is the first vertex of that id, and whether there is one.
func V(g api.Graph, id int64) (api.Vertex, bool) {
	for _, v := range g.V {
		if v.Id == id {
			return cloneVertex(v), true
		}
	}
	return api.Vertex{}, false
}

// E is the first edge of that id, and whether there is one.
func E(g api.Graph, id int64) (api.Link, bool) {
	for _, l := range g.E {
		if l.Id == id {
			return cloneLink(l), true
		}
	}
	return api.Link{}, false
}

// Label is an element's label, and whether there is such an element.
func Label(g api.Graph, elem api.Value) (string, bool) {
	x, is := find(g, elem)
	return x.label, is
}

// Props are an element's properties.
func Props(g api.Graph, elem api.Value) []api.Prop {
	x, _ := find(g, elem)
	return cloneProps(x.props)
}

// Prop is the value of an element's first property of that name, and whether it has one.
func Prop(g api.Graph, elem api.Value, name string) (api.Value, bool) {
	x, _ := find(g, elem)
	v, is := x.prop(name)
	return value.Clone(v), is
}

// Out goes through the edges that go out of a vertex, in their order: those with one of the labels, or all, if there are none.
func Out(g api.Graph, id int64, labels ...string) iter.Seq[api.Link] {
	return tellLinks(g, func(l api.Link) bool { return l.Out == id && among(labels, l.Label) })
}

// In goes through the edges that come into a vertex, in their order: those with one of the labels, or all, if there are none.
func In(g api.Graph, id int64, labels ...string) iter.Seq[api.Link] {
	return tellLinks(g, func(l api.Link) bool { return l.In == id && among(labels, l.Label) })
}

// All goes through the elements of a kind, in their order: those with one of the labels, or all, if there are none.
func All(g api.Graph, kind int, labels ...string) iter.Seq[api.Value] {
	return tellElements(g, kind, func(x element) bool { return among(labels, x.label) })
}

// Find goes through the elements of a kind whose first property of that name is the same as v, in their order.
func Find(g api.Graph, kind int, name string, v api.Value) iter.Seq[api.Value] {
	return tellElements(g, kind, func(x element) bool {
		has, is := x.prop(name)
		return is && value.Same(has, v)
	})
}

func among(labels []string, label string) bool {
	return len(labels) == 0 || slices.Contains(labels, label)
}

// tellLinks goes through the edges that are wanted.
// They are picked at once: what is handed in isn't kept, and may be changed ahead of the going through, or while it lasts.
func tellLinks(g api.Graph, wanted func(api.Link) bool) iter.Seq[api.Link] {
	var picked []api.Link
	for _, l := range g.E {
		if wanted(l) {
			picked = append(picked, cloneLink(l))
		}
	}
	return func(yield func(api.Link) bool) {
		for _, l := range picked {
			// Each is cloned again: one may go through them twice, and change what was told.
			if !yield(cloneLink(l)) {
				return
			}
		}
	}
}

// tellElements goes through the elements of a kind that are wanted, which are picked at once, as edges are.
func tellElements(g api.Graph, kind int, wanted func(element) bool) iter.Seq[api.Value] {
	var picked []int64
	for x := range elements(g, kind) {
		if wanted(x) {
			picked = append(picked, x.id)
		}
	}
	return func(yield func(api.Value) bool) {
		for _, id := range picked {
			if !yield(api.Value{Kind: kind, N: id}) {
				return
			}
		}
	}
}
