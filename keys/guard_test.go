package keys

import (
	"cmp"
	"fmt"
	"reflect"
	"slices"
	"strings"
	"testing"

	"ramble/api"
)

// The tests reach the package through these calls: each is made with lists as they are, and with lists behind which there is room; nothing that is handed in may be changed, the room included, nothing that is answered may share memory with that or with another part of the answer (R3), and both answers must be one (R4, R6).

// roomy is v, in memory of its own, in which each list has room for three more that are not zero.
func roomy(v any) any { return roomyValue(reflect.ValueOf(v)).Interface() }

func roomyValue(v reflect.Value) reflect.Value {
	out := reflect.New(v.Type()).Elem()
	switch v.Kind() {
	case reflect.Slice:
		out.Set(reflect.MakeSlice(v.Type(), v.Len()+3, v.Len()+3))
		for i := range v.Len() {
			out.Index(i).Set(roomyValue(v.Index(i)))
		}
		for i := range 3 {
			setSome(out.Index(v.Len() + i))
		}
		return out.Slice(0, v.Len())
	case reflect.Struct:
		for i := range v.NumField() {
			out.Field(i).Set(roomyValue(v.Field(i)))
		}
		return out
	}
	out.Set(v)
	return out
}

func setSome(v reflect.Value) {
	switch v.Kind() {
	case reflect.String:
		v.SetString("a")
	case reflect.Int, reflect.Int64:
		v.SetInt(1)
	case reflect.Uint8:
		v.SetUint(77)
	case reflect.Struct:
		for i := range v.NumField() {
			setSome(v.Field(i))
		}
	}
}

// lists are all lists that v has, each with all that it has room for.
func lists(v reflect.Value) []reflect.Value {
	var l []reflect.Value
	switch v.Kind() {
	case reflect.Interface:
		return lists(v.Elem())
	case reflect.Slice:
		l = append(l, v.Slice(0, v.Cap()))
		if v.Type().Elem().Kind() == reflect.Uint8 {
			return l
		}
		for i := range v.Len() {
			l = append(l, lists(v.Index(i))...)
		}
	case reflect.Struct:
		for i := range v.NumField() {
			l = append(l, lists(v.Field(i))...)
		}
	}
	return l
}

// all are the lists of all parts.
func all(parts []any) []reflect.Value {
	var l []reflect.Value
	for _, part := range parts {
		l = append(l, lists(reflect.ValueOf(part))...)
	}
	return l
}

// image is what stands in all lists, the room behind them included.
func image(parts []any) string {
	var s strings.Builder
	for _, list := range all(parts) {
		if b, are := list.Interface().([]byte); are {
			s.Write(b)
		} else {
			fmt.Fprint(&s, list.Interface())
		}
		s.WriteString("\n")
	}
	return s.String()
}

// span is the memory of a list, with all that it has room for.
type span struct {
	from, to uintptr
	list     reflect.Value
	answered bool
}

func spans(l []reflect.Value, answered bool) []span {
	var out []span
	for _, list := range l {
		length := uintptr(list.Len()) * list.Type().Elem().Size()
		if length > 0 {
			out = append(out, span{list.Pointer(), list.Pointer() + length, list, answered})
		}
	}
	return out
}

// wantApart fails if a list that was answered has memory in common with another one, or with one that was handed in.
func wantApart(t *testing.T, what string, handed, answered []reflect.Value) {
	t.Helper()
	l := append(spans(handed, false), spans(answered, true)...)
	slices.SortFunc(l, func(a, b span) int { return cmp.Compare(a.from, b.from) })
	for i, a := range l {
		for _, b := range l[i+1:] {
			if b.from >= a.to {
				break
			}
			if a.answered || b.answered {
				t.Fatalf("%s: %v and %v share memory", what, a.list.Interface(), b.list.Interface())
			}
		}
	}
}

// guarded makes a call, and holds it against R3; it is handed what the call gets, and tells what it answers.
func guarded(t *testing.T, what string, in []any, call func(in []any) []any) []any {
	t.Helper()
	plain := once(t, what, in, call)
	room := make([]any, len(in))
	for i := range in {
		room[i] = roomy(in[i])
	}
	other := once(t, what+" with room", room, call)
	for i := range plain {
		if a, b := fmt.Sprintf("%v", plain[i]), fmt.Sprintf("%v", other[i]); a != b {
			t.Fatalf("%s of lists with room behind them is another:\n%s\n%s", what, a, b)
		}
	}
	return plain
}

func once(t *testing.T, what string, in []any, call func(in []any) []any) []any {
	t.Helper()
	handed := all(in)
	before := image(in)
	out := call(in)
	if image(in) != before {
		t.Fatalf("%s changed what it was handed:\n%v\nis now\n%v", what, before, image(in))
	}
	wantApart(t, what, handed, all(out))
	return out
}

// bytesBy is a call that answers bytes.
func bytesBy(t *testing.T, what string, in []any, call func(in []any) []byte) []byte {
	t.Helper()
	return guarded(t, what, in, func(in []any) []any { return []any{call(in)} })[0].([]byte)
}

func sign(t *testing.T, v api.Value) []byte {
	t.Helper()
	return bytesBy(t, "Sign", []any{v}, func(in []any) []byte { return Sign(in[0].(api.Value)) })
}

func key(t *testing.T, elem api.Value) []byte {
	t.Helper()
	return bytesBy(t, "Key", []any{elem}, func(in []any) []byte { return Key(in[0].(api.Value)) })
}

func out(t *testing.T, id int64, labels ...string) []byte {
	t.Helper()
	return bytesBy(t, "Out", []any{labels}, func(in []any) []byte { return Out(id, in[0].([]string)...) })
}

func into(t *testing.T, id int64, labels ...string) []byte {
	t.Helper()
	return bytesBy(t, "In", []any{labels}, func(in []any) []byte { return In(id, in[0].([]string)...) })
}

func label(t *testing.T, kind int, labels ...string) []byte {
	t.Helper()
	return bytesBy(t, "Label", []any{labels}, func(in []any) []byte { return Label(kind, in[0].([]string)...) })
}

func prop(t *testing.T, kind int, name string, values ...api.Value) []byte {
	t.Helper()
	return bytesBy(t, "Prop", []any{values}, func(in []any) []byte { return Prop(kind, name, in[0].([]api.Value)...) })
}

func meta(t *testing.T, last int64, vertices, edges int) api.Entry {
	t.Helper()
	return guarded(t, "Meta", nil, func([]any) []any { return []any{Meta(last, vertices, edges)} })[0].(api.Entry)
}

func vertex(t *testing.T, v api.Vertex) []api.Entry {
	t.Helper()
	return guarded(t, "Vertex", []any{v}, func(in []any) []any { return []any{Vertex(in[0].(api.Vertex))} })[0].([]api.Entry)
}

func edge(t *testing.T, e api.Link) []api.Entry {
	t.Helper()
	return guarded(t, "Edge", []any{e}, func(in []any) []any { return []any{Edge(in[0].(api.Link))} })[0].([]api.Entry)
}

func parseMeta(t *testing.T, x api.Entry) (int64, int, int, api.Errno) {
	t.Helper()
	l := guarded(t, "ParseMeta", []any{x}, func(in []any) []any {
		last, vertices, edges, err := ParseMeta(in[0].(api.Entry))
		return []any{last, vertices, edges, err}
	})
	return l[0].(int64), l[1].(int), l[2].(int), l[3].(api.Errno)
}

func parseV(t *testing.T, x api.Entry) (api.Vertex, api.Errno) {
	t.Helper()
	l := guarded(t, "ParseV", []any{x}, func(in []any) []any {
		v, err := ParseV(in[0].(api.Entry))
		return []any{v, err}
	})
	return l[0].(api.Vertex), l[1].(api.Errno)
}

func parseE(t *testing.T, x api.Entry) (api.Link, api.Errno) {
	t.Helper()
	l := guarded(t, "ParseE", []any{x}, func(in []any) []any {
		e, err := ParseE(in[0].(api.Entry))
		return []any{e, err}
	})
	return l[0].(api.Link), l[1].(api.Errno)
}

func elem(t *testing.T, x api.Entry) (api.Value, int64, api.Errno) {
	t.Helper()
	l := guarded(t, "Elem", []any{x}, func(in []any) []any {
		v, other, err := Elem(in[0].(api.Entry))
		return []any{v, other, err}
	})
	return l[0].(api.Value), l[1].(int64), l[2].(api.Errno)
}
