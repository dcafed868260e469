package keys

import (
	"strings"
	"testing"

	"ramble/api"
	"ramble/value"
)

// wantParsed holds ParseV and ParseE of an entry against what the model makes of it.
func wantParsed(t *testing.T, x row) {
	t.Helper()
	var vertex api.Vertex
	var link api.Link
	errV, errE := api.ErrKeys, api.ErrKeys
	if got, is := vertexOf(x); is {
		vertex, errV = got, api.OK
	}
	if got, is := linkOf(x); is {
		link, errE = got, api.OK
	}
	gotV, err := ParseV(entry(x.key, x.val))
	if err != errV || !sameVertex(gotV, vertex) || err != api.OK && gotV.Props != nil {
		t.Fatalf("ParseV(%q): %v, %d; want %v, %d", x, gotV, err, vertex, errV)
	}
	gotE, err := ParseE(entry(x.key, x.val))
	if err != errE || !sameLink(gotE, link) || err != api.OK && gotE.Props != nil {
		t.Fatalf("ParseE(%q): %v, %d; want %v, %d", x, gotE, err, link, errE)
	}
}

// P11.1: an element that may stand in a graph is read from its first entry, and from no other one.
func TestParse(t *testing.T) {
	for _, x := range vertices() {
		for i, y := range Vertex(x) {
			got, err := parseV(t, y)
			if i == 0 && (err != api.OK || !sameVertex(got, x)) || i > 0 && (err != api.ErrKeys || !sameVertex(got, api.Vertex{})) {
				t.Fatalf("ParseV of the entry %d of %v: %v, %d", i, x, got, err)
			}
			if got, err := parseE(t, y); err != api.ErrKeys || !sameLink(got, api.Link{}) {
				t.Fatalf("ParseE of the entry %d of %v: %v, %d", i, x, got, err)
			}
		}
	}
	for _, x := range links() {
		for i, y := range Edge(x) {
			got, err := parseE(t, y)
			if i == 0 && (err != api.OK || !sameLink(got, x)) || i > 0 && (err != api.ErrKeys || !sameLink(got, api.Link{})) {
				t.Fatalf("ParseE of the entry %d of %v: %v, %d", i, x, got, err)
			}
			if got, err := parseV(t, y); err != api.ErrKeys || !sameVertex(got, api.Vertex{}) {
				t.Fatalf("ParseV of the entry %d of %v: %v, %d", i, x, got, err)
			}
		}
	}
}

// P11.1: entries of elements that may stand in no graph are none.
func TestParseRefusesOdd(t *testing.T) {
	for _, x := range oddVertices() {
		if got, err := parseV(t, Vertex(x)[0]); err != api.ErrKeys || !sameVertex(got, api.Vertex{}) {
			t.Fatalf("ParseV of %v: %v, %d", x, got, err)
		}
	}
	for _, x := range oddLinks() {
		if got, err := parseE(t, Edge(x)[0]); err != api.ErrKeys || !sameLink(got, api.Link{}) {
			t.Fatalf("ParseE of %v: %v, %d", x, got, err)
		}
	}
}

// P11.1: what is no such entry, written out.
func TestParseRefuses(t *testing.T) {
	const vKey, eKey = "\x01\x06\x80\x00\x00\x00\x00\x00\x00\x07", "\x02\x07\x80\x00\x00\x00\x00\x00\x00\x07"
	for _, val := range []string{
		"", "\x01", "\x01a", "a", "\x00\x00", "\x01a\x00\x00", "\x02a\x00", "\x81\x00a\x00", "\x01a\x80\x00", "\x01a\x01", "\x01a\x01\x01", "\x01a\x01\x01b", "\x01a\x01\x01b\x01", "\x01a\x01\x01b\x01\x00\x00",
		"\x01a\x02\x01b\x01\x00", "\x01a\x02\x01b\x01\x00\x01b\x01\x00", "\x01a\x02\x01b\x01\x00\x01a\x01\x00", "\x01a\x00\x01b\x01\x00", "\x01a\x01\x00\x01\x00", "\x01a\x01\x019\x01\x00", "\x019\x00",
		"\x01a\x01\x01b\x01\x80\x00", "\x01a\x01\x01b\x04\x01", "\x01a\x01\x01b\x00", "\x01a\x01\x01b\x08", "\x01a\x01\x01b\x03\x02", "\x01a\x01\x01b\x06\x00", "\x01a\x01\x01b\x05\x01\x01\x00",
		"\x19" + long("a", 25) + "\x00", "\x01a\x01\x19" + long("b", 25) + "\x01\x00", "\x01a\x11" + strings.Repeat("\x01b\x01\x00", 17), "\x01a\xff\xff\xff\xff\xff\xff\xff\xff\xff\x01", "\xff\xff\xff\xff\xff\xff\xff\xff\xff\x01a\x00", "\x80\x80\x80\x80\x80\x80\x80\x80\x80\x80\x80",
	} {
		wantNoV(t, entry(vKey, val))
		wantNoE(t, entry(eKey, "\x01\x01"+val))
	}
	for _, ends := range []string{"", "\x01", "\x00\x01", "\x01\x00", "\x81\x00\x01", "\x01\x81\x00", "\x80\x80\x80\x80\x80\x80\x41\x01", "\x01\x81\x80\x80\x80\x80\x80\x40", "\xff\xff\xff\xff\xff\xff\xff\xff\xff\x01\x01", "\x01\x80\x80\x80\x80\x80\x80\x80\x80\x80\x02"} {
		wantNoE(t, entry(eKey, ends+"\x01a\x00"))
	}
	for _, key := range []string{
		"", "\x00", "\x01", "\x02", vKey[1:], eKey[1:], vKey[:9], eKey[:9], vKey + "\x00", eKey + "\x00", vKey + vKey[1:], eKey + eKey[1:], "\x01" + eKey[1:], "\x02" + vKey[1:], "\x03" + vKey[1:], "\x00" + vKey[1:],
		"\x01\x06\x80\x00\x00\x00\x00\x00\x00\x00", "\x01\x06\x80\x01\x00\x00\x00\x00\x00\x01", "\x01\x06\x7f\xff\xff\xff\xff\xff\xff\xff", "\x02\x07\x80\x00\x00\x00\x00\x00\x00\x00", "\x02\x07\x80\x01\x00\x00\x00\x00\x00\x01", "\x01\x01\x80\x00\x00\x00\x00\x00\x00\x07", "\x02\x01\x80\x00\x00\x00\x00\x00\x00\x07",
	} {
		wantNoV(t, entry(key, "\x01a\x00"))
		wantNoE(t, entry(key, "\x01\x01\x01a\x00"))
	}
	wantNoV(t, api.Entry{})
	wantNoE(t, api.Entry{})
	wantNoV(t, Meta(7, 1, 0))
	wantNoE(t, Meta(7, 1, 0))
}

func wantNoV(t *testing.T, x api.Entry) {
	t.Helper()
	if got, err := parseV(t, x); err != api.ErrKeys || !sameVertex(got, api.Vertex{}) || got.Props != nil {
		t.Fatalf("ParseV(%q): %v, %d", x, got, err)
	}
}

func wantNoE(t *testing.T, x api.Entry) {
	t.Helper()
	if got, err := parseE(t, x); err != api.ErrKeys || !sameLink(got, api.Link{}) || got.Props != nil {
		t.Fatalf("ParseE(%q): %v, %d", x, got, err)
	}
}

// changedProps are properties of elements whose entries are changed at every place.
func changedProps() [][]api.Prop {
	return [][]api.Prop{
		nil,
		{p("a", value.Int(-300)), p("aa", value.Str("a\x00")), p("b", value.Bool(true))},
		{p("l", list(value.Vertex(far), value.Edge(300), list(), value.Int(1<<40))), p("m", dict(value.Int(1), value.Str(""), value.Int(2), list(value.Bool(false)), value.Str("a"), value.Int(0)))},
		{p("s", str("a", 39)), p("t", str("\x00", 19)), p("u", str("b", 100))},
		{p("x", list(str("c", 35))), p("y", dict(value.Str("d"), str("d", 45))), p("z", list(many(value.Edge(1<<20), 20)...))},
		named("p", api.MaxProps),
	}
}

// P11.1: whatever is changed in an entry, what is read is an element that may stand in a graph, with these bytes again; and if it is one's, it is read.
func TestParseOfAnything(t *testing.T) {
	for i, props := range changedProps() {
		label, id := names()[i], int64(1)<<(8*i)
		for _, x := range append(Vertex(v(id, label, props...))[:1], Edge(e(id, label, 7, 300, props...))[0]) {
			eachChange(rowOf(x), func(x row) { wantParsed(t, x) })
		}
	}
	for _, x := range append(Edge(e(7, "a", far, far))[:1], Edge(e(7, "a", 127, 128))[0]) {
		eachChange(rowOf(x), func(x row) { wantParsed(t, x) })
	}
}
