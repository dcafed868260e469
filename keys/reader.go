package keys

import (
	"ramble/api"
	"ramble/codec"
	"ramble/num"
	"ramble/value"
)

// reader reads bytes from the left; it keeps and changes none of them. Once it has failed, nothing is left of them, and it fails on.
type reader struct {
	rest   []byte
	failed bool
}

func (r *reader) fail() { r.rest, r.failed = nil, true }

// whole tells whether all is read, and nothing failed.
func (r *reader) whole() bool { return !r.failed && len(r.rest) == 0 }

// pass goes over the next n bytes; they are the reader's, to be looked at alone.
func (r *reader) pass(n int) []byte {
	if n > len(r.rest) {
		r.fail()
		return nil
	}
	passed := r.rest[:n]
	r.rest = r.rest[n:]
	return passed
}

func (r *reader) one() byte {
	b := r.pass(1)
	if len(b) == 0 {
		return 0
	}
	return b[0]
}

// mark goes over the byte with which a kind of keys begins.
func (r *reader) mark(kind byte) {
	if r.one() != kind {
		r.fail()
	}
}

// number fails at numbers above most.
func (r *reader) number(most uint64) int64 {
	u, n, e := num.Take(r.rest)
	if e != api.OK || u > most {
		r.fail()
		return 0
	}
	r.pass(n)
	return int64(u)
}

func (r *reader) id() int64 {
	id := r.number(api.MaxId)
	if id == 0 {
		r.fail()
	}
	return id
}

// name reads a name as it stands in a value.
func (r *reader) name() string {
	s := string(r.pass(int(r.number(api.MaxName))))
	if !value.Name(s) {
		r.fail()
	}
	return s
}

// props reads an element's properties, whose names rise.
func (r *reader) props() []api.Prop {
	var l []api.Prop
	for range r.number(api.MaxProps) {
		p := api.Prop{Name: r.name(), Value: r.plain()}
		if len(l) > 0 && l[len(l)-1].Name >= p.Name {
			r.fail()
		}
		l = append(l, p)
	}
	return l
}

// plain reads a value as plain bytes.
func (r *reader) plain() api.Value { return r.found(codec.Read(r.rest)) }

// form reads a value of a kind as it stands in a key.
func (r *reader) form(kind int) api.Value {
	v := r.found(codec.Take(r.rest))
	if v.Kind != kind {
		r.fail()
	}
	return v
}

// kind reads the byte that says of which kind an element is.
func (r *reader) kind() int {
	kind := int(r.one())
	if kind != api.VVertex && kind != api.VEdge {
		r.fail()
	}
	return kind
}

// nameForm reads a name as it stands in a key.
func (r *reader) nameForm() {
	if !value.Name(r.form(api.VStr).S) {
		r.fail()
	}
}

// found goes over the value that was found where the bytes left begin.
func (r *reader) found(v api.Value, n int, e api.Errno) api.Value {
	if e != api.OK {
		r.fail()
	}
	r.pass(n)
	return v
}

// sign goes over a value's sign.
func (r *reader) sign() {
	length := int(r.one())
	if !isStem(r.pass(length)) {
		r.fail()
	}
}
