package gstore

import (
	"bytes"
	"iter"

	"ramble/api"
	"ramble/keys"
	"ramble/value"
)

// With what keys begin is asked of package keys only for ids that a vertex may have, kinds that there are, and labels that are names: of others less would stand there, or another kind, and what was not asked for would be told.

// Out goes through the edges that go out of a vertex, by labels, then by ids: those with the first one of the labels, or all, if there are none.
func (s *Store) Out(id int64, labels ...string) iter.Seq[api.Link] {
	if !s.made() || !isId(id) || !areNames(labels) {
		return nothing[api.Link]
	}
	return s.links(keys.Out(id, labels...))
}

// In goes through the edges that come into a vertex, by labels, then by ids: those with the first one of the labels, or all, if there are none.
func (s *Store) In(id int64, labels ...string) iter.Seq[api.Link] {
	if !s.made() || !isId(id) || !areNames(labels) {
		return nothing[api.Link]
	}
	return s.links(keys.In(id, labels...))
}

// All goes through the elements of a kind, by ids: those with the first one of the labels, or all, if there are none.
func (s *Store) All(kind int, labels ...string) iter.Seq[api.Value] {
	if !s.made() || !isKind(kind) || !areNames(labels) {
		return nothing[api.Value]
	}
	if len(labels) == 0 {
		// The index by labels goes by ids within one label alone.
		return s.elements(byId(kind))
	}
	return s.elements(keys.Label(kind, labels...))
}

// Find goes through the elements of a kind whose property of that name is the same as v, by ids.
func (s *Store) Find(kind int, name string, v api.Value) iter.Seq[api.Value] {
	if !s.made() || !isKind(kind) {
		return nothing[api.Value]
	}
	v = value.Clone(v)
	begin := keys.Prop(kind, name, v)
	return func(yield func(api.Value) bool) {
	candidates:
		for elem := range s.elements(begin) {
			props, e := s.props(elem)
			if e != api.OK {
				break candidates
			}
			for _, p := range props {
				// Values that are not the same may have one sign.
				if p.Name == name && value.Same(p.Value, v) && !yield(elem) {
					break candidates
				}
			}
		}
	}
}

func nothing[T any](func(T) bool) {}

func isId(id int64) bool { return value.Check(value.Vertex(id)) == api.OK }

func isKind(kind int) bool { return kind == api.VVertex || kind == api.VEdge }

// areNames tells whether an element may have the first one of the labels; true, if there are none.
func areNames(labels []string) bool { return len(labels) == 0 || value.Name(labels[0]) }

// byId is with what the keys begin under which the elements of a kind stand by ids.
func byId(kind int) []byte {
	if kind == api.VVertex {
		return []byte{api.KyV}
	}
	return []byte{api.KyE}
}

// beginning goes through the entries whose keys begin so, rising; with an error of the pages it ends.
func (s *Store) beginning(begin []byte) iter.Seq[api.Entry] {
	return func(yield func(api.Entry) bool) {
		for k, val := range s.tree.All(begin, nil) {
			if !bytes.HasPrefix(k, begin) || !yield(api.Entry{Key: k, Val: val}) {
				return
			}
		}
	}
}

// links goes through the edges whose entries' keys begin so. It ends as elements does.
func (s *Store) links(begin []byte) iter.Seq[api.Link] {
	return func(yield func(api.Link) bool) {
		for elem := range s.elements(begin) {
			l, e := s.E(elem.N)
			if e != api.OK || !yield(l) {
				return
			}
		}
	}
}

// elements goes through the elements whose entries' keys begin so. It ends with an error, and where the pages are those of no graph.
func (s *Store) elements(begin []byte) iter.Seq[api.Value] {
	return func(yield func(api.Value) bool) {
		for entry := range s.beginning(begin) {
			elem, e := elemOf(entry)
			if e != api.OK || !yield(elem) {
				return
			}
		}
	}
}

// elemOf is the element that an entry is of, be it one under the element's id, or one of an index.
func elemOf(entry api.Entry) (api.Value, api.Errno) {
	switch entry.Key[0] {
	case api.KyV:
		v, e := keys.ParseV(entry)
		return value.Vertex(v.Id), e
	case api.KyE:
		l, e := keys.ParseE(entry)
		return value.Edge(l.Id), e
	}
	elem, _, e := keys.Elem(entry)
	return elem, e
}

// props are an element's properties.
func (s *Store) props(elem api.Value) ([]api.Prop, api.Errno) {
	if elem.Kind == api.VVertex {
		v, e := s.V(elem.N)
		return v.Props, e
	}
	l, e := s.E(elem.N)
	return l.Props, e
}
