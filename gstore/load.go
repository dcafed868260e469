package gstore

import (
	"bytes"
	"slices"

	"ramble/api"
	"ramble/graph"
	"ramble/keys"
)

// Load is the graph.
func (s *Store) Load() (api.Graph, api.Errno) {
	_, g, e := s.whole()
	return g, e
}

// whole is all entries, rising, and the graph that has just these.
func (s *Store) whole() ([]api.Entry, api.Graph, api.Errno) {
	l, e := s.entries()
	if e != api.OK {
		return nil, api.Graph{}, e
	}
	g := graphOf(l)
	if graph.Check(g) != api.OK || !slices.EqualFunc(l, entriesOf(g), sameEntry) {
		return nil, api.Graph{}, api.ErrStore
	}
	return l, g, api.OK
}

// entries is all that stands in the tree. That is checked first: going through it ends with an error, and does not tell which.
func (s *Store) entries() ([]api.Entry, api.Errno) {
	if !s.made() {
		return nil, api.ErrMade
	}
	if _, _, e := s.tree.Check(); e != api.OK {
		return nil, e
	}
	var l []api.Entry
	for k, val := range s.tree.All(nil, nil) {
		l = append(l, api.Entry{Key: k, Val: val})
	}
	return l, api.OK
}

// graphOf is what the entries under ids say, and the graph's own one; those of the indexes are left out. Of an entry that says nothing there is an element that may not be, or no last id, so that this graph may not be, or has other entries.
func graphOf(l []api.Entry) api.Graph {
	var g api.Graph
	for _, x := range l {
		switch x.Key[0] {
		case api.KyMeta:
			g.Last, _, _, _ = keys.ParseMeta(x)
		case api.KyV:
			v, _ := keys.ParseV(x)
			g.V = append(g.V, v)
		case api.KyE:
			link, _ := keys.ParseE(x)
			g.E = append(g.E, link)
		}
	}
	return g
}

// entriesOf is all entries of a graph that may be, rising.
func entriesOf(g api.Graph) []api.Entry {
	var l []api.Entry
	if g.Last > 0 {
		l = append(l, keys.Meta(g.Last, len(g.V), len(g.E)))
	}
	for _, v := range g.V {
		l = append(l, keys.Vertex(v)...)
	}
	for _, x := range g.E {
		l = append(l, keys.Edge(x)...)
	}
	slices.SortFunc(l, compareKeys)
	return l
}

func compareKeys(a, b api.Entry) int { return bytes.Compare(a.Key, b.Key) }

func sameEntry(a, b api.Entry) bool { return compareKeys(a, b) == 0 && bytes.Equal(a.Val, b.Val) }
