package node

import (
	"cmp"
	"fmt"
	"reflect"
	"slices"
	"strings"
	"testing"

	"ramble/api"
)

// The tests reach the package through these calls: each is made with lists as they are, and with lists behind which there is room; nothing that is handed in may be changed, the room included, nothing that is answered may share memory with that or with another part of the answer (R3), and both answers must be one (R4, R6).

// roomy is v, in memory of its own, in which each list has room for three more that are not zero.
func roomy(v any) any { return roomyValue(reflect.ValueOf(v)).Interface() }

func roomyValue(v reflect.Value) reflect.Value {
	out := reflect.New(v.Type()).Elem()
	switch v.Kind() {
	case reflect.Slice:
		out.Set(reflect.MakeSlice(v.Type(), v.Len()+3, v.Len()+3))
		for i := range v.Len() {
			out.Index(i).Set(roomyValue(v.Index(i)))
		}
		for i := range 3 {
			setSome(out.Index(v.Len() + i))
		}
		return out.Slice(0, v.Len())
	case reflect.Struct:
		for i := range v.NumField() {
			out.Field(i).Set(roomyValue(v.Field(i)))
		}
		return out
	}
	out.Set(v)
	return out
}

func setSome(v reflect.Value) {
	switch v.Kind() {
	case reflect.Uint8:
		v.SetUint(77)
	case reflect.Int:
		v.SetInt(77)
	case reflect.Slice:
		v.SetBytes([]byte("77"))
	case reflect.Struct:
		v.FieldByName("Key").SetBytes([]byte("77"))
	}
}

// lists are all lists that v has, each with all that it has room for.
func lists(v reflect.Value) []reflect.Value {
	var l []reflect.Value
	switch v.Kind() {
	case reflect.Interface:
		return lists(v.Elem())
	case reflect.Slice:
		l = append(l, v.Slice(0, v.Cap()))
		for i := range v.Len() {
			l = append(l, lists(v.Index(i))...)
		}
	case reflect.Struct:
		for i := range v.NumField() {
			l = append(l, lists(v.Field(i))...)
		}
	}
	return l
}

// all are the lists of all parts.
func all(parts []any) []reflect.Value {
	var l []reflect.Value
	for _, part := range parts {
		l = append(l, lists(reflect.ValueOf(part))...)
	}
	return l
}

// image is what stands in all lists, the room behind them included.
func image(parts []any) string {
	var s strings.Builder
	for _, list := range all(parts) {
		if b, are := list.Interface().([]byte); are {
			s.Write(b)
		} else {
			fmt.Fprint(&s, list.Interface())
		}
		s.WriteString("\n")
	}
	return s.String()
}

// span is the memory of a list, with all that it has room for.
type span struct {
	from, to uintptr
	list     reflect.Value
	answered bool
}

func spans(l []reflect.Value, answered bool) []span {
	var out []span
	for _, list := range l {
		length := uintptr(list.Len()) * list.Type().Elem().Size()
		if length > 0 {
			out = append(out, span{list.Pointer(), list.Pointer() + length, list, answered})
		}
	}
	return out
}

// wantApart fails if a list that was answered has memory in common with another one, or with one that was handed in.
func wantApart(t *testing.T, what string, handed, answered []reflect.Value) {
	t.Helper()
	l := append(spans(handed, false), spans(answered, true)...)
	slices.SortFunc(l, func(a, b span) int { return cmp.Compare(a.from, b.from) })
	for i, a := range l {
		for _, b := range l[i+1:] {
			if b.from >= a.to {
				break
			}
			if a.answered || b.answered {
				t.Fatalf("%s: %v and %v share memory", what, a.list.Interface(), b.list.Interface())
			}
		}
	}
}

// guarded makes a call, and holds it against R3; it is handed what the call gets, and tells what it answers.
func guarded(t *testing.T, what string, in []any, call func(in []any) []any) []any {
	t.Helper()
	plain := once(t, what, in, call)
	room := make([]any, len(in))
	for i := range in {
		room[i] = roomy(in[i])
	}
	other := once(t, what+" with room", room, call)
	for i := range plain {
		if tellPart(plain[i]) != tellPart(other[i]) {
			t.Fatalf("%s of lists with room behind them is another:\n%s\n%s", what, tellPart(plain[i]), tellPart(other[i]))
		}
	}
	return plain
}

func tellPart(part any) string {
	if n, is := part.(api.Node); is {
		return tell(n)
	}
	return fmt.Sprintf("%v", part)
}

func once(t *testing.T, what string, in []any, call func(in []any) []any) []any {
	t.Helper()
	before := image(in)
	out := call(in)
	if image(in) != before {
		t.Fatalf("%s changed what it was handed:\n%s\nis now\n%s", what, before, image(in))
	}
	wantApart(t, what, all(in), all(out))
	return out
}

func check(t *testing.T, n api.Node) api.Errno {
	t.Helper()
	return guarded(t, "Check", []any{n}, func(in []any) []any { return []any{Check(in[0].(api.Node))} })[0].(api.Errno)
}

func size(t *testing.T, n api.Node) int {
	t.Helper()
	return guarded(t, "Size", []any{n}, func(in []any) []any { return []any{Size(in[0].(api.Node))} })[0].(int)
}

func bytesOf(t *testing.T, n api.Node) ([]byte, api.Errno) {
	t.Helper()
	out := guarded(t, "Bytes", []any{n}, func(in []any) []any {
		b, e := Bytes(in[0].(api.Node))
		return []any{b, e}
	})
	return out[0].([]byte), out[1].(api.Errno)
}

func parse(t *testing.T, b []byte) (api.Node, api.Errno) {
	t.Helper()
	out := guarded(t, "Parse", []any{b}, func(in []any) []any {
		n, e := Parse(in[0].([]byte))
		return []any{n, e}
	})
	return out[0].(api.Node), out[1].(api.Errno)
}

func find(t *testing.T, n api.Node, key string) (int, bool) {
	t.Helper()
	out := guarded(t, "Find", []any{n, []byte(key)}, func(in []any) []any {
		at, is := Find(in[0].(api.Node), in[1].([]byte))
		return []any{at, is}
	})
	return out[0].(int), out[1].(bool)
}

func child(t *testing.T, n api.Node, key string) int {
	t.Helper()
	return guarded(t, "Child", []any{n, []byte(key)}, func(in []any) []any {
		return []any{Child(in[0].(api.Node), in[1].([]byte))}
	})[0].(int)
}

func insert(t *testing.T, n api.Node, c api.Cell) api.Node {
	t.Helper()
	return guarded(t, "Insert", []any{n, c}, func(in []any) []any {
		return []any{Insert(in[0].(api.Node), in[1].(api.Cell))}
	})[0].(api.Node)
}

func remove(t *testing.T, n api.Node, key string) (api.Node, bool) {
	t.Helper()
	out := guarded(t, "Remove", []any{n, []byte(key)}, func(in []any) []any {
		m, is := Remove(in[0].(api.Node), in[1].([]byte))
		return []any{m, is}
	})
	return out[0].(api.Node), out[1].(bool)
}

func adopt(t *testing.T, n api.Node, at int, key string, kid int) api.Node {
	t.Helper()
	return guarded(t, "Adopt", []any{n, []byte(key)}, func(in []any) []any {
		return []any{Adopt(in[0].(api.Node), at, in[1].([]byte), kid)}
	})[0].(api.Node)
}

func disown(t *testing.T, n api.Node, at int) api.Node {
	t.Helper()
	return guarded(t, "Disown", []any{n}, func(in []any) []any { return []any{Disown(in[0].(api.Node), at)} })[0].(api.Node)
}

func split(t *testing.T, n api.Node) (api.Node, []byte, api.Node) {
	t.Helper()
	out := guarded(t, "Split", []any{n}, func(in []any) []any {
		first, key, second := Split(in[0].(api.Node))
		return []any{first, key, second}
	})
	return out[0].(api.Node), out[1].([]byte), out[2].(api.Node)
}

func same(t *testing.T, a, b api.Node) bool {
	t.Helper()
	return guarded(t, "Same", []any{a, b}, func(in []any) []any {
		return []any{Same(in[0].(api.Node), in[1].(api.Node))}
	})[0].(bool)
}

func clone(t *testing.T, n api.Node) api.Node {
	t.Helper()
	return guarded(t, "Clone", []any{n}, func(in []any) []any { return []any{Clone(in[0].(api.Node))} })[0].(api.Node)
}
