package keys

import (
	"bytes"
	"fmt"
	"math"
	"testing"

	"ramble/api"
	"ramble/value"
)

// P11.2: the keys of elements, written out.
func TestKeyAsWritten(t *testing.T) {
	wantBytes(t, "Key of v[1]", key(t, value.Vertex(1)), "\x01\x06\x80\x00\x00\x00\x00\x00\x00\x01")
	wantBytes(t, "Key of v[300]", key(t, value.Vertex(300)), "\x01\x06\x80\x00\x00\x00\x00\x00\x01\x2c")
	wantBytes(t, "Key of e[1]", key(t, value.Edge(1)), "\x02\x07\x80\x00\x00\x00\x00\x00\x00\x01")
	wantBytes(t, "Key of e[MaxId]", key(t, value.Edge(far)), "\x02\x07\x80\x01\x00\x00\x00\x00\x00\x00")
	for _, id := range ids() {
		wantBytes(t, "Key of a vertex", key(t, value.Vertex(id)), "\x01"+formOf(value.Vertex(id)))
		wantBytes(t, "Key of an edge", key(t, value.Edge(id)), "\x02"+formOf(value.Edge(id)))
	}
}

// P11.2: what is no element has no key: values of other kinds, and those of its kinds that may not be.
func TestKeyOfOthers(t *testing.T) {
	for _, x := range may() {
		if x.Kind != api.VVertex && x.Kind != api.VEdge {
			wantBytes(t, "Key of "+value.Text(x), key(t, x), "")
		}
	}
	for _, x := range append(mayNot(), withFields()...) {
		wantBytes(t, fmt.Sprint("Key of ", x), key(t, x), "")
	}
	for _, kind := range []int{math.MinInt, -1, 0, api.VInt, api.VStr, api.VBool, api.VList, api.VMap, 8, 256 + api.VVertex, 256 + api.VEdge, math.MaxInt} {
		for _, id := range append(ids(), noIds()...) {
			wantBytes(t, fmt.Sprint("Key of the kind ", kind), key(t, api.Value{Kind: kind, N: id}), "")
		}
	}
}

// withFields are vertices and edges, by their ids, with a field that they do not have.
func withFields() []api.Value {
	var l []api.Value
	for _, kind := range []int{api.VVertex, api.VEdge} {
		for _, id := range ids() {
			l = append(l, api.Value{Kind: kind, N: id, S: "a"}, api.Value{Kind: kind, N: id, S: "\x00"}, api.Value{Kind: kind, N: id, L: many(value.Int(1), 1)},
				api.Value{Kind: kind, N: id, L: []api.Value{{}}}, api.Value{Kind: kind, N: id, S: "a", L: many(value.Vertex(id), 2)})
		}
	}
	return l
}

// P11.2: an element's id is from 1 to MaxId: what has the one below or the one above, or any other, has no key.
func TestKeyAtTheEndsOfIds(t *testing.T) {
	for _, id := range noIds() {
		wantBytes(t, fmt.Sprint("Key of a vertex with the id ", id), key(t, value.Vertex(id)), "")
		wantBytes(t, fmt.Sprint("Key of an edge with the id ", id), key(t, value.Edge(id)), "")
	}
	wantBytes(t, "Key of v[1]", key(t, value.Vertex(1)), "\x01\x06\x80\x00\x00\x00\x00\x00\x00\x01")
	wantBytes(t, "Key of v[MaxId]", key(t, value.Vertex(far)), "\x01\x06\x80\x01\x00\x00\x00\x00\x00\x00")
	wantBytes(t, "Key of e[1]", key(t, value.Edge(1)), "\x02\x07\x80\x00\x00\x00\x00\x00\x00\x01")
	wantBytes(t, "Key of e[MaxId]", key(t, value.Edge(far)), "\x02\x07\x80\x01\x00\x00\x00\x00\x00\x00")
}

// P11.2, R6: an empty list is no field, so an element that has one has its key.
func TestKeyWithAnEmptyList(t *testing.T) {
	for _, elem := range []api.Value{value.Vertex(7), value.Edge(7)} {
		with := elem
		with.L = []api.Value{}
		if got := key(t, with); len(got) != 10 || !bytes.Equal(got, key(t, elem)) {
			t.Errorf("Key of %v with an empty list: %v", elem, got)
		}
	}
}

// P11.2: with what the keys of edges begin, written out.
func TestOutAndInAsWritten(t *testing.T) {
	const seven = "\x06\x80\x00\x00\x00\x00\x00\x00\x07"
	wantBytes(t, "Out(7)", out(t, 7), "\x03"+seven)
	wantBytes(t, "In(7)", into(t, 7), "\x04"+seven)
	wantBytes(t, "Out(7, knows)", out(t, 7, "knows"), "\x03"+seven+"\x02knows\x00\x01")
	wantBytes(t, "In(7, knows)", into(t, 7, "knows"), "\x04"+seven+"\x02knows\x00\x01")
	wantBytes(t, "Out(MaxId)", out(t, far), "\x03\x06\x80\x01\x00\x00\x00\x00\x00\x00")
}

// anyLabels are labels, with the label as which they stand: none, one, and several, of which the first one counts.
func anyLabels() map[string][][]string {
	m := map[string][][]string{"": {nil, {}}}
	for _, x := range append(names(), noNames()...) {
		form := formOf(value.Str(x))
		m[form] = append(m[form], []string{x}, []string{x, "a"}, []string{x, "", "b", "a"})
	}
	return m
}

// P11.2: with what the keys of edges begin: any id, any labels.
func TestOutAndIn(t *testing.T) {
	for form, l := range anyLabels() {
		for _, labels := range l {
			for _, id := range append(ids(), noIds()...) {
				elem := formOf(value.Vertex(id))
				wantBytes(t, "Out", out(t, id, labels...), "\x03"+elem+form)
				wantBytes(t, "In", into(t, id, labels...), "\x04"+elem+form)
			}
		}
	}
	wantBytes(t, "Out(0)", out(t, 0), "\x03")
	wantBytes(t, "In(0, a)", into(t, 0, "a"), "\x04\x02a\x00\x01")
	wantBytes(t, "Out(7) of a label that is too long", out(t, 7, long("a", api.MaxText+1)), string(out(t, 7)))
	wantBytes(t, "Out(7) of no bytes", out(t, 7, ""), string(out(t, 7))+"\x02\x00\x01")
}

// kinds are any kinds, with the byte as which they stand.
func kinds() map[int]byte {
	return map[int]byte{api.VVertex: 6, api.VEdge: 7, 0: 0, 1: 1, 5: 5, 8: 8, 255: 255, 256: 0, 262: 6, 263: 7, 1 << 40: 0, 1<<40 + 6: 6, -1: 255, -250: 6, math.MaxInt: 255, math.MinInt: 0}
}

// P11.2: with what keys by labels begin: any kind, any labels.
func TestLabel(t *testing.T) {
	wantBytes(t, "Label of vertices", label(t, api.VVertex), "\x05\x06")
	wantBytes(t, "Label of edges", label(t, api.VEdge, "knows"), "\x05\x07\x02knows\x00\x01")
	for form, l := range anyLabels() {
		for _, labels := range l {
			for kind, c := range kinds() {
				wantBytes(t, "Label", label(t, kind, labels...), string([]byte{5, c})+form)
			}
		}
	}
}

// P11.2: with what keys by properties begin: any kind, any name, any values, of which the first one counts.
func TestProp(t *testing.T) {
	wantBytes(t, "Prop of age", prop(t, api.VVertex, "age"), "\x06\x06\x02age\x00\x01")
	wantBytes(t, "Prop of age -1", prop(t, api.VEdge, "age", value.Int(-1)), "\x06\x07\x02age\x00\x01\x09\x01\x7f\xff\xff\xff\xff\xff\xff\xff")
	for kind, c := range kinds() {
		for _, name := range append(names(), noNames()...) {
			head := string([]byte{6, c}) + formOf(value.Str(name))
			wantBytes(t, "Prop without a value", prop(t, kind, name), head)
			wantBytes(t, "Prop", prop(t, kind, name, value.Str(name)), head+signOf(value.Str(name)))
			wantBytes(t, "Prop of two values", prop(t, kind, name, value.Bool(true), value.Int(1)), head+"\x02\x03\x01")
			wantBytes(t, "Prop of what may not be", prop(t, kind, name, api.Value{}, value.Int(1)), head+"\x00")
		}
	}
	for _, x := range append(may(), mayNot()...) {
		wantBytes(t, "Prop", prop(t, api.VVertex, "a", x), "\x06\x06\x02a\x00\x01"+signOf(x))
		wantBytes(t, "Prop", prop(t, api.VVertex, "a", x, value.Int(1)), "\x06\x06\x02a\x00\x01"+signOf(x))
	}
}
