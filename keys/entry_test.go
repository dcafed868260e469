package keys

import (
	"fmt"
	"testing"

	"ramble/api"
	"ramble/value"
)

func wantEntries(t *testing.T, what string, got []api.Entry, want []row) {
	t.Helper()
	if len(got) != len(want) {
		t.Fatalf("%s: %d entries, want %d", what, len(got), len(want))
	}
	for i, x := range want {
		wantBytes(t, fmt.Sprintf("%s: the key %d", what, i), got[i].Key, x.key)
		wantBytes(t, fmt.Sprintf("%s: the value %d", what, i), got[i].Val, x.val)
	}
}

// P11.1: the entries of vertices, written out.
func TestVertexAsWritten(t *testing.T) {
	const id = "\x06\x80\x00\x00\x00\x00\x00\x00\x07"
	wantEntries(t, "a vertex without properties", vertex(t, v(7, "person")), []row{
		{"\x01" + id, "\x06person\x00"},
		{"\x05\x06\x02person\x00\x01" + id, ""},
	})
	wantEntries(t, "a vertex with properties", vertex(t, v(7, "person", p("age", value.Int(-3)), p("likes", list(value.Edge(300))), p("name", value.Str("it's")))), []row{
		{"\x01" + id, "\x06person\x03\x03age\x01\x05\x05likes\x04\x01\x07\xac\x02\x04name\x02\x04it's"},
		{"\x05\x06\x02person\x00\x01" + id, ""},
		{"\x06\x06\x02age\x00\x01\x09\x01\x7f\xff\xff\xff\xff\xff\xff\xfd" + id, ""},
		{"\x06\x06\x02likes\x00\x01\x05\x04\x01\x07\xac\x02" + id, ""},
		{"\x06\x06\x02name\x00\x01\x07\x02it's\x00\x01" + id, ""},
	})
}

// P11.1: the entries of edges, written out.
func TestEdgeAsWritten(t *testing.T) {
	const id, seven, far = "\x07\x80\x00\x00\x00\x00\x00\x00\x09", "\x06\x80\x00\x00\x00\x00\x00\x00\x07", "\x06\x80\x00\x00\x00\x00\x00\x01\x2c"
	wantEntries(t, "an edge", edge(t, e(9, "knows", 7, 300, p("since", value.Int(1)))), []row{
		{"\x02" + id, "\x07\xac\x02\x05knows\x01\x05since\x01\x02"},
		{"\x03" + seven + "\x02knows\x00\x01" + id, "\xac\x02"},
		{"\x04" + far + "\x02knows\x00\x01" + id, "\x07"},
		{"\x05\x07\x02knows\x00\x01" + id, ""},
		{"\x06\x07\x02since\x00\x01\x09\x01\x80\x00\x00\x00\x00\x00\x00\x01" + id, ""},
	})
}

// P11.1: the entries of any vertices and edges, by the forms, whether they may stand in a graph or not.
func TestEntriesByForms(t *testing.T) {
	for _, x := range append(vertices(), oddVertices()...) {
		wantEntries(t, fmt.Sprint("Vertex of ", x), vertex(t, x), vertexRows(x))
	}
	for _, x := range append(links(), oddLinks()...) {
		wantEntries(t, fmt.Sprint("Edge of ", x), edge(t, x), linkRows(x))
	}
}

// P11.1: labels, names and values of which codec.Key or codec.Put knows no bytes stand as nothing in keys; in values labels and names stand as they are.
func TestEntriesOfAny(t *testing.T) {
	const id, seven = "\x07\x80\x00\x00\x00\x00\x00\x00\x09", "\x06\x80\x00\x00\x00\x00\x00\x00\x07"
	name := long("a", 129)
	wantEntries(t, "Edge", edge(t, e(9, name, 7, 7, p("", value.Vertex(0)), p(name, value.Int(0)))), []row{
		{"\x02" + id, "\x07\x07\x81\x01" + name + "\x02\x00\x81\x01" + name + "\x01\x00"},
		{"\x03" + seven + id, "\x07"},
		{"\x04" + seven + id, "\x07"},
		{"\x05\x07" + id, ""},
		{"\x06\x07\x02\x00\x01\x00" + id, ""},
		{"\x06\x07\x09\x01\x80\x00\x00\x00\x00\x00\x00\x00" + id, ""},
	})
	wantEntries(t, "Vertex", vertex(t, v(7, "", p("b", list(value.Vertex(0))))), []row{
		{"\x01" + seven, "\x00\x01\x01b"},
		{"\x05\x06\x02\x00\x01" + seven, ""},
		{"\x06\x06\x02b\x00\x01\x00" + seven, ""},
	})
}

// P11.1: where an id is none there are no entries.
func TestNoEntries(t *testing.T) {
	for _, x := range vertexWithout() {
		wantEntries(t, fmt.Sprint("Vertex of ", x), vertex(t, x), nil)
	}
	for _, x := range linkWithout() {
		wantEntries(t, fmt.Sprint("Edge of ", x), edge(t, x), nil)
	}
	for _, id := range ids() {
		if len(vertex(t, v(id, "a"))) != 2 || len(edge(t, e(id, "a", 1, far))) != 4 || len(edge(t, e(1, "a", id, 1))) != 4 || len(edge(t, e(1, "a", far, id))) != 4 {
			t.Errorf("no entries of the id %d", id)
		}
	}
}
