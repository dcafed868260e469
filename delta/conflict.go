package delta

import (
	"cmp"
	"maps"
	"slices"

	"ramble/api"
)

// elements are elements by their plain names.
type elements map[api.TxnElem]struct{}

func (m elements) put(kind int, id int64) { m[api.TxnElem{Kind: kind, Id: id}] = struct{}{} }

func (m elements) has(kind int, id int64) bool {
	_, is := m[api.TxnElem{Kind: kind, Id: id}]
	return is
}

// values are the elements as values, vertices first, then by ids.
func (m elements) values() []api.Value {
	var l []api.Value
	for _, x := range slices.SortedFunc(maps.Keys(m), compare) {
		l = append(l, api.Value{Kind: x.Kind, N: x.Id})
	}
	return l
}

func compare(a, b api.TxnElem) int {
	return cmp.Or(cmp.Compare(a.Kind, b.Kind), cmp.Compare(a.Id, b.Id))
}

// Writes are the elements that changes of g write, vertices first, then by ids: those that they name, and the edges that go with a vertex.
func (l Changes) Writes(g api.Graph) []api.Value { return l.writes(g).values() }

// writes are the elements that changes of g write. An edge that one of them adds and another one drops with its vertex is named already, where it is added.
func (l Changes) writes(g api.Graph) elements {
	written := l.named(func(kind int) bool { return kind != api.ChLast })
	dropped := l.named(func(kind int) bool { return kind == api.ChDrop })
	for _, x := range g.E {
		if dropped.has(api.VVertex, x.Out) || dropped.has(api.VVertex, x.In) {
			written.put(api.VEdge, x.Id)
		}
	}
	return written
}

// named are the elements of Elem of the changes whose kind is asked for. What is no element is left out: a change of that may not be, and nothing is done by it.
func (l Changes) named(asked func(kind int) bool) elements {
	m := elements{}
	for _, c := range l {
		if asked(c.Kind) && isElem(c.Elem) {
			m.put(c.Elem.Kind, c.Elem.N)
		}
	}
	return m
}

// Needs are the vertices that the edges which changes add go out of and come into, by ids.
func (l Changes) Needs() []api.Value { return l.needs().values() }

// needs are the vertices that changes need; an id that is none is left out, as with Elem.
func (l Changes) needs() elements {
	m := elements{}
	for _, c := range l {
		if c.Kind != api.ChAddE {
			continue
		}
		for _, id := range []int64{c.Out, c.In} {
			if isId(id) {
				m.put(api.VVertex, id)
			}
		}
	}
	return m
}

// Conflict tells whether changes of g are in each other's way: both write elements of one id, or one drops or adds a vertex that the other one needs.
func Conflict(g api.Graph, a, b Changes) bool {
	written := b.writes(g)
	for x := range a.writes(g) {
		// Ids are given to vertices and edges together: the kind does not count.
		if written.has(api.VVertex, x.Id) || written.has(api.VEdge, x.Id) {
			return true
		}
	}
	return a.moves(b.needs()) || b.moves(a.needs())
}

// moves tells whether changes drop or add one of these elements.
func (l Changes) moves(m elements) bool {
	for x := range l.named(func(kind int) bool { return kind == api.ChDrop || kind == api.ChAddV }) {
		if m.has(x.Kind, x.Id) {
			return true
		}
	}
	return false
}
