package keys

import "ramble/api"

// entryReader reads an entry's key and its value, each from the left.
type entryReader struct {
	key, val reader
}

func read(e api.Entry) *entryReader {
	return &entryReader{key: reader{rest: e.Key}, val: reader{rest: e.Val}}
}

// check is ErrKeys, if the entry is not of the form in which it was read, from its first byte to its last.
func (r *entryReader) check() api.Errno {
	if r.key.whole() && r.val.whole() {
		return api.OK
	}
	return api.ErrKeys
}

// ParseMeta is what the graph's own entry says: the last id, how many vertices, how many edges; ErrKeys, if e is none such.
func ParseMeta(e api.Entry) (int64, int, int, api.Errno) {
	r := read(e)
	r.key.mark(api.KyMeta)
	last := r.val.number(api.MaxId)
	vertices, edges := r.val.number(api.MaxElems), r.val.number(api.MaxElems)
	if err := r.check(); err != api.OK {
		return 0, 0, 0, err
	}
	return last, int(vertices), int(edges), api.OK
}

// ParseV is the vertex whose entry under its id e is; ErrKeys, if it is none of a vertex that may be.
func ParseV(e api.Entry) (api.Vertex, api.Errno) {
	r := read(e)
	r.key.mark(api.KyV)
	v := api.Vertex{Id: r.key.form(api.VVertex).N, Label: r.val.name(), Props: r.val.props()}
	if err := r.check(); err != api.OK {
		return api.Vertex{}, err
	}
	return v, api.OK
}

// ParseE is the edge whose entry under its id e is; ErrKeys, if it is none of an edge that may be.
func ParseE(e api.Entry) (api.Link, api.Errno) {
	r := read(e)
	r.key.mark(api.KyE)
	l := api.Link{Id: r.key.form(api.VEdge).N, Out: r.val.id(), In: r.val.id(), Label: r.val.name(), Props: r.val.props()}
	if err := r.check(); err != api.OK {
		return api.Link{}, err
	}
	return l, api.OK
}

// Elem is the element that an entry by an index names, and, of an edge by a vertex, the vertex at its other end, else 0; ErrKeys, if e is none such.
func Elem(e api.Entry) (api.Value, int64, api.Errno) {
	r := read(e)
	elem, other := r.index()
	if err := r.check(); err != api.OK {
		return api.Value{}, 0, err
	}
	return elem, other, api.OK
}

// index reads an entry by an index: the element, and the vertex at an edge's other end.
func (r *entryReader) index() (api.Value, int64) {
	switch r.key.one() {
	case api.KyOut, api.KyIn:
		r.key.form(api.VVertex)
		r.key.nameForm()
		return r.key.form(api.VEdge), r.val.id()
	case api.KyLabel:
		kind := r.key.kind()
		r.key.nameForm()
		return r.key.form(kind), 0
	case api.KyProp:
		kind := r.key.kind()
		r.key.nameForm()
		r.key.sign()
		return r.key.form(kind), 0
	}
	r.key.fail()
	return api.Value{}, 0
}
