package keys

import (
	"strings"

	"ramble/api"
	"ramble/value"
)

// The forms of chapters 1, 3 and 11, written down once more, byte by byte, in strings.

// seven is a number in groups of seven bits.
func seven(u uint64) string {
	if u < 128 {
		return string([]byte{byte(u)})
	}
	return string([]byte{byte(u%128) + 128}) + seven(u/128)
}

// row is an entry's bytes.
type row struct{ key, val string }

// eight is a number's eight bytes in a key.
func eight(n int64) string {
	var s string
	u := uint64(n) + 1<<63
	for range 8 {
		s = string([]byte{byte(u)}) + s
		u /= 256
	}
	return s
}

// formOf is a value's form in a key; of such as has none, nothing.
func formOf(v api.Value) string {
	if value.Check(v) != api.OK {
		return ""
	}
	switch v.Kind {
	case api.VInt:
		return "\x01" + eight(v.N)
	case api.VStr:
		return "\x02" + strings.ReplaceAll(v.S, "\x00", "\x00\xff") + "\x00\x01"
	case api.VBool:
		return "\x03" + string([]byte{byte(v.N)})
	case api.VVertex:
		return "\x06" + eight(v.N)
	case api.VEdge:
		return "\x07" + eight(v.N)
	}
	return ""
}

// bytesOf is a value's plain bytes; of such as has none, nothing.
func bytesOf(v api.Value) string {
	if value.Check(v) != api.OK {
		return ""
	}
	kind := string([]byte{byte(v.Kind)})
	switch v.Kind {
	case api.VInt:
		if v.N < 0 {
			return kind + seven(2*uint64(-(v.N+1))+1)
		}
		return kind + seven(2*uint64(v.N))
	case api.VStr:
		return kind + textOf(v.S)
	case api.VList, api.VMap:
		s := kind + seven(uint64(len(v.L)))
		for _, x := range v.L {
			s += bytesOf(x)
		}
		return s
	}
	return kind + seven(uint64(v.N))
}

func textOf(s string) string { return seven(uint64(len(s))) + s }

func signOf(v api.Value) string {
	s := formOf(v)
	if v.Kind == api.VList || v.Kind == api.VMap {
		s = bytesOf(v)
	}
	if len(s) > 40 {
		s = s[:40]
	}
	return string([]byte{byte(len(s))}) + s
}

func propsOf(l []api.Prop) string {
	s := seven(uint64(len(l)))
	for _, x := range l {
		s += textOf(x.Name) + bytesOf(x.Value)
	}
	return s
}

func idMay(id int64) bool { return id >= 1 && id <= 1<<48 }

func vertexRows(x api.Vertex) []row {
	if !idMay(x.Id) {
		return nil
	}
	elem := formOf(value.Vertex(x.Id))
	l := []row{{"\x01" + elem, textOf(x.Label) + propsOf(x.Props)}, {"\x05\x06" + formOf(value.Str(x.Label)) + elem, ""}}
	for _, y := range x.Props {
		l = append(l, row{"\x06\x06" + formOf(value.Str(y.Name)) + signOf(y.Value) + elem, ""})
	}
	return l
}

func linkRows(x api.Link) []row {
	if !idMay(x.Id) || !idMay(x.Out) || !idMay(x.In) {
		return nil
	}
	elem, out, in, label := formOf(value.Edge(x.Id)), formOf(value.Vertex(x.Out)), formOf(value.Vertex(x.In)), formOf(value.Str(x.Label))
	l := []row{
		{"\x02" + elem, seven(uint64(x.Out)) + seven(uint64(x.In)) + textOf(x.Label) + propsOf(x.Props)},
		{"\x03" + out + label + elem, seven(uint64(x.In))},
		{"\x04" + in + label + elem, seven(uint64(x.Out))},
		{"\x05\x07" + label + elem, ""},
	}
	for _, y := range x.Props {
		l = append(l, row{"\x06\x07" + formOf(value.Str(y.Name)) + signOf(y.Value) + elem, ""})
	}
	return l
}

// stands tells whether an element with that label and these properties may stand in a graph.
func stands(label string, props []api.Prop) bool {
	if !value.Name(label) || len(props) > 16 {
		return false
	}
	for i, x := range props {
		if !value.Name(x.Name) || i > 0 && props[i-1].Name >= x.Name || value.Check(x.Value) != api.OK {
			return false
		}
	}
	return true
}

// loose reads bytes as far as it can, without asking whether they are in their one form: what it makes of them is laid out again, and held against them.
type loose struct {
	rest string
	lost bool
}

func (l *loose) pass(n int) string {
	if n > len(l.rest) {
		l.rest, l.lost = "", true
		return ""
	}
	s := l.rest[:n]
	l.rest = l.rest[n:]
	return s
}

func (l *loose) one() int {
	s := l.pass(1)
	if s == "" {
		return 0
	}
	return int(s[0])
}

func (l *loose) seven() uint64 {
	var u uint64
	for i := range 10 {
		c := l.one()
		u |= uint64(c%128) << (7 * i)
		if c < 128 {
			break
		}
	}
	return u
}

func (l *loose) eight() int64 {
	var u uint64
	for range 8 {
		u = u*256 + uint64(l.one())
	}
	return int64(u - 1<<63)
}

// short is a number of things that may not be many: more are lost.
func (l *loose) short() int {
	u := l.seven()
	if u > 600 {
		l.rest, l.lost = "", true
		return 0
	}
	return int(u)
}

func (l *loose) text() string { return l.pass(l.short()) }

// marked reads a string as it stands in a key.
func (l *loose) marked() string {
	s, rest, is := strings.Cut(strings.ReplaceAll(l.rest, "\x00\xff", "\x00 "), "\x00\x01")
	if !is {
		l.rest, l.lost = "", true
		return ""
	}
	s = l.rest[:len(s)]
	l.rest = l.rest[len(l.rest)-len(rest):]
	return strings.ReplaceAll(s, "\x00\xff", "\x00")
}

func (l *loose) form() api.Value {
	v := api.Value{Kind: l.one()}
	switch v.Kind {
	case api.VInt, api.VVertex, api.VEdge:
		v.N = l.eight()
	case api.VStr:
		v.S = l.marked()
	case api.VBool:
		v.N = int64(l.one())
	}
	return v
}

func (l *loose) value() api.Value {
	v := api.Value{Kind: l.one()}
	switch v.Kind {
	case api.VInt:
		u := l.seven()
		v.N = int64(u / 2)
		if u%2 == 1 {
			v.N = -1 - v.N
		}
	case api.VStr:
		v.S = l.text()
	case api.VBool:
		v.N = int64(l.one())
	case api.VVertex, api.VEdge:
		v.N = int64(l.seven())
	case api.VList, api.VMap:
		for n := l.short(); n > 0 && !l.lost; n-- {
			v.L = append(v.L, l.value())
		}
	}
	return v
}

func (l *loose) props() []api.Prop {
	var props []api.Prop
	for n := l.short(); n > 0 && !l.lost; n-- {
		props = append(props, p(l.text(), l.value()))
	}
	return props
}

// vertexOf is the vertex whose first entry x is, if it is one's that may stand in a graph.
func vertexOf(x row) (api.Vertex, bool) {
	key, val := &loose{rest: x.key}, &loose{rest: x.val}
	key.one()
	got := v(key.form().N, val.text(), val.props()...)
	l := vertexRows(got)
	return got, len(l) > 0 && l[0] == x && stands(got.Label, got.Props)
}

// linkOf is the edge whose first entry x is, if it is one's that may stand in a graph.
func linkOf(x row) (api.Link, bool) {
	key, val := &loose{rest: x.key}, &loose{rest: x.val}
	key.one()
	got := api.Link{Id: key.form().N, Out: int64(val.seven()), In: int64(val.seven()), Label: val.text(), Props: val.props()}
	l := linkRows(got)
	return got, len(l) > 0 && l[0] == x && stands(got.Label, got.Props)
}

// elemOf is the element of an entry by an index, and the vertex at the other end of an edge, if it is such an entry.
func elemOf(x row) (api.Value, int64, bool) {
	key, val := &loose{rest: x.key}, &loose{rest: x.val}
	switch kind := key.one(); kind {
	case api.KyOut, api.KyIn:
		end, label, elem, other := key.form(), key.form(), key.form(), int64(val.seven())
		link := e(elem.N, label.S, end.N, other)
		at := 1
		if kind == api.KyIn {
			link.Out, link.In, at = other, end.N, 2
		}
		l := linkRows(link)
		return elem, other, len(l) > 0 && l[at] == x && value.Name(label.S)
	case api.KyLabel:
		elemKind, label, elem := key.one(), key.form(), key.form()
		row := row{key: "\x05" + string([]byte{byte(elemKind)}) + formOf(label) + formOf(elem)}
		return elem, 0, row == x && elem.Kind == elemKind && isElem(elem) && label.Kind == api.VStr && value.Name(label.S)
	case api.KyProp:
		elemKind, name := key.one(), key.form()
		sign := key.pass(key.one())
		elem := key.form()
		row := row{key: "\x06" + string([]byte{byte(elemKind)}) + formOf(name) + textOf(sign) + formOf(elem)}
		return elem, 0, row == x && elem.Kind == elemKind && isElem(elem) && name.Kind == api.VStr && value.Name(name.S) && isSignOf(sign)
	}
	return api.Value{}, 0, false
}

func isElem(v api.Value) bool { return (v.Kind == api.VVertex || v.Kind == api.VEdge) && idMay(v.N) }

// isSignOf tells whether there is a value whose sign s is, behind its first byte; of lists and maps that are cut off it takes the program's word, which other tests hold against the chapter.
func isSignOf(s string) bool {
	if s == "" {
		return true
	}
	if s[0] == api.VList || s[0] == api.VMap {
		l := &loose{rest: s}
		if whole := l.value(); !l.lost {
			return bytesOf(whole) == s && len(s) <= 40
		}
		return isStem([]byte(s))
	}
	if s[0] == api.VStr && len(s) == 40 {
		rest := strings.ReplaceAll(s, "\x00\xff", "  ")
		at := strings.IndexByte(rest, 0)
		return at < 0 || at == 39 || at == 38 && rest[39] == 1
	}
	l := &loose{rest: s}
	return formOf(l.form()) == s && len(s) < 40
}
