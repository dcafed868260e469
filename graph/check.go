package graph

import (
	"cmp"
	"slices"

	"ramble/api"
	"ramble/value"
)

// Check tells whether a graph may be: ErrGraph, if not.
func Check(g api.Graph) api.Errno {
	if g.Last < 0 || g.Last > api.MaxId || len(g.V) > api.MaxElems || len(g.E) > api.MaxElems {
		return api.ErrGraph
	}
	// The vertices are asked ahead of the edges' ends: these are looked for among ids that rise.
	if !elementsMay(g, api.VVertex) || !elementsMay(g, api.VEdge) || !linksMay(g) {
		return api.ErrGraph
	}
	return api.OK
}

// elementsMay tells whether the elements of a kind may be, each by itself and behind the one ahead of it.
func elementsMay(g api.Graph, kind int) bool {
	last := int64(0)
	for x := range elements(g, kind) {
		if x.id <= last || x.id > g.Last || !value.Name(x.label) || !propsMay(x.props) {
			return false
		}
		last = x.id
	}
	return true
}

func propsMay(l []api.Prop) bool {
	if len(l) > api.MaxProps {
		return false
	}
	for i, p := range l {
		if !value.Name(p.Name) || i > 0 && l[i-1].Name >= p.Name || value.Check(p.Value) != api.OK {
			return false
		}
	}
	return true
}

// linksMay tells whether each edge has an id that no vertex has, and goes from one vertex to one.
func linksMay(g api.Graph) bool {
	for _, l := range g.E {
		if hasVertex(g, l.Id) || !hasVertex(g, l.Out) || !hasVertex(g, l.In) {
			return false
		}
	}
	return true
}

// hasVertex tells whether there is a vertex of that id, in a graph whose vertices' ids rise.
func hasVertex(g api.Graph, id int64) bool {
	_, is := slices.BinarySearchFunc(g.V, id, func(v api.Vertex, id int64) int { return cmp.Compare(v.Id, id) })
	return is
}
