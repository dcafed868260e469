package graph

import (
	"cmp"
	"fmt"
	"iter"
	"reflect"
	"slices"
	"testing"

	"ramble/api"
)

// The tests reach the package through these calls: each is made with lists as they are, and with lists behind which there is room; nothing that is handed in may be changed, the room included, nothing that is answered may share memory with that or with another part of the answer (R3), and both answers must be one (R4, R6).

// roomy is v, in memory of its own, in which each list has room for three more that are not zero.
func roomy(v any) any { return roomyValue(reflect.ValueOf(v)).Interface() }

func roomyValue(v reflect.Value) reflect.Value {
	out := reflect.New(v.Type()).Elem()
	switch v.Kind() {
	case reflect.Slice:
		out.Set(reflect.MakeSlice(v.Type(), v.Len()+3, v.Len()+3))
		for i := range v.Len() {
			out.Index(i).Set(roomyValue(v.Index(i)))
		}
		for i := range 3 {
			setSome(out.Index(v.Len() + i))
		}
		return out.Slice(0, v.Len())
	case reflect.Struct:
		for i := range v.NumField() {
			out.Field(i).Set(roomyValue(v.Field(i)))
		}
		return out
	}
	out.Set(v)
	return out
}

func setSome(v reflect.Value) {
	switch v.Kind() {
	case reflect.String:
		v.SetString("a")
	case reflect.Int, reflect.Int64:
		v.SetInt(1)
	case reflect.Struct:
		for i := range v.NumField() {
			setSome(v.Field(i))
		}
	}
}

// lists are all lists that v has, each with all that it has room for.
func lists(v reflect.Value) []reflect.Value {
	var l []reflect.Value
	switch v.Kind() {
	case reflect.Interface:
		return lists(v.Elem())
	case reflect.Slice:
		l = append(l, v.Slice(0, v.Cap()))
		for i := range v.Len() {
			l = append(l, lists(v.Index(i))...)
		}
	case reflect.Struct:
		for i := range v.NumField() {
			l = append(l, lists(v.Field(i))...)
		}
	}
	return l
}

// all are the lists of all parts.
func all(parts []any) []reflect.Value {
	var l []reflect.Value
	for _, part := range parts {
		l = append(l, lists(reflect.ValueOf(part))...)
	}
	return l
}

// kept is a list, and what stood in it, the room behind it included. (What stands in lists within it is kept with those.)
type kept struct{ list, was reflect.Value }

func keep(l []reflect.Value) []kept {
	var out []kept
	for _, list := range l {
		if list.Len() == 0 {
			continue
		}
		was := reflect.MakeSlice(list.Type(), list.Len(), list.Len())
		reflect.Copy(was, list)
		out = append(out, kept{list, was})
	}
	return out
}

func wantKept(t *testing.T, what string, l []kept) {
	t.Helper()
	for _, k := range l {
		if !reflect.DeepEqual(k.list.Interface(), k.was.Interface()) {
			t.Fatalf("%s changed what it was handed:\n%v\nis now\n%v", what, k.was.Interface(), k.list.Interface())
		}
	}
}

// span is the memory of a list, with all that it has room for.
type span struct {
	from, to uintptr
	list     reflect.Value
	answered bool
}

func spans(l []reflect.Value, answered bool) []span {
	var out []span
	for _, list := range l {
		length := uintptr(list.Len()) * list.Type().Elem().Size()
		if length > 0 {
			out = append(out, span{list.Pointer(), list.Pointer() + length, list, answered})
		}
	}
	return out
}

// wantApart fails if a list that was answered has memory in common with another one, or with one that was handed in.
func wantApart(t *testing.T, what string, handed, answered []reflect.Value) {
	t.Helper()
	l := append(spans(handed, false), spans(answered, true)...)
	slices.SortFunc(l, func(a, b span) int { return cmp.Compare(a.from, b.from) })
	for i, a := range l {
		for _, b := range l[i+1:] {
			if b.from >= a.to {
				break
			}
			if a.answered || b.answered {
				t.Fatalf("%s: %v and %v share memory", what, a.list.Interface(), b.list.Interface())
			}
		}
	}
}

// guarded makes a call, and holds it against R3; it is handed what the call gets, and tells what it answers.
func guarded(t *testing.T, what string, in []any, call func(in []any) []any) []any {
	t.Helper()
	plain := once(t, what, in, call)
	room := make([]any, len(in))
	for i := range in {
		room[i] = roomy(in[i])
	}
	other := once(t, what+" with room", room, call)
	for i := range plain {
		if tellPart(plain[i]) != tellPart(other[i]) {
			t.Fatalf("%s of lists with room behind them is another:\n%s\n%s", what, tellPart(plain[i]), tellPart(other[i]))
		}
	}
	return plain
}

func tellPart(part any) string {
	if g, is := part.(api.Graph); is {
		return tell(g)
	}
	return fmt.Sprintf("%v", part)
}

func once(t *testing.T, what string, in []any, call func(in []any) []any) []any {
	t.Helper()
	handed := all(in)
	before := keep(handed)
	out := call(in)
	wantKept(t, what, before)
	wantApart(t, what, handed, all(out))
	return out
}

func check(t *testing.T, g api.Graph) api.Errno {
	t.Helper()
	return guarded(t, "Check", []any{g}, func(in []any) []any { return []any{Check(in[0].(api.Graph))} })[0].(api.Errno)
}

func addV(t *testing.T, g api.Graph, label string) (api.Graph, int64, api.Errno) {
	t.Helper()
	out := guarded(t, "AddV", []any{g}, func(in []any) []any {
		g, id, e := AddV(in[0].(api.Graph), label)
		return []any{g, id, e}
	})
	return out[0].(api.Graph), out[1].(int64), out[2].(api.Errno)
}

func addE(t *testing.T, g api.Graph, label string, from, to int64) (api.Graph, int64, api.Errno) {
	t.Helper()
	out := guarded(t, "AddE", []any{g}, func(in []any) []any {
		g, id, e := AddE(in[0].(api.Graph), label, from, to)
		return []any{g, id, e}
	})
	return out[0].(api.Graph), out[1].(int64), out[2].(api.Errno)
}

func set(t *testing.T, g api.Graph, elem api.Value, name string, v api.Value) (api.Graph, api.Errno) {
	t.Helper()
	out := guarded(t, "Set", []any{g, elem, v}, func(in []any) []any {
		g, e := Set(in[0].(api.Graph), in[1].(api.Value), name, in[2].(api.Value))
		return []any{g, e}
	})
	return out[0].(api.Graph), out[1].(api.Errno)
}

func unset(t *testing.T, g api.Graph, elem api.Value, name string) (api.Graph, bool, api.Errno) {
	t.Helper()
	out := guarded(t, "Unset", []any{g, elem}, func(in []any) []any {
		g, is, e := Unset(in[0].(api.Graph), in[1].(api.Value), name)
		return []any{g, is, e}
	})
	return out[0].(api.Graph), out[1].(bool), out[2].(api.Errno)
}

func drop(t *testing.T, g api.Graph, elem api.Value) (api.Graph, api.Errno) {
	t.Helper()
	out := guarded(t, "Drop", []any{g, elem}, func(in []any) []any {
		g, e := Drop(in[0].(api.Graph), in[1].(api.Value))
		return []any{g, e}
	})
	return out[0].(api.Graph), out[1].(api.Errno)
}

func vertex(t *testing.T, g api.Graph, id int64) (api.Vertex, bool) {
	t.Helper()
	out := guarded(t, "V", []any{g}, func(in []any) []any {
		v, is := V(in[0].(api.Graph), id)
		return []any{v, is}
	})
	return out[0].(api.Vertex), out[1].(bool)
}

func link(t *testing.T, g api.Graph, id int64) (api.Link, bool) {
	t.Helper()
	out := guarded(t, "E", []any{g}, func(in []any) []any {
		l, is := E(in[0].(api.Graph), id)
		return []any{l, is}
	})
	return out[0].(api.Link), out[1].(bool)
}

func label(t *testing.T, g api.Graph, elem api.Value) (string, bool) {
	t.Helper()
	out := guarded(t, "Label", []any{g, elem}, func(in []any) []any {
		s, is := Label(in[0].(api.Graph), in[1].(api.Value))
		return []any{s, is}
	})
	return out[0].(string), out[1].(bool)
}

func props(t *testing.T, g api.Graph, elem api.Value) []api.Prop {
	t.Helper()
	return guarded(t, "Props", []any{g, elem}, func(in []any) []any {
		return []any{Props(in[0].(api.Graph), in[1].(api.Value))}
	})[0].([]api.Prop)
}

func prop(t *testing.T, g api.Graph, elem api.Value, name string) (api.Value, bool) {
	t.Helper()
	out := guarded(t, "Prop", []any{g, elem}, func(in []any) []any {
		v, is := Prop(in[0].(api.Graph), in[1].(api.Value), name)
		return []any{v, is}
	})
	return out[0].(api.Value), out[1].(bool)
}

// twice is what an iterator tells when it is gone through, and again: once more the same, in memory of its own.
func twice[T any](t *testing.T, what string, seq iter.Seq[T]) []any {
	t.Helper()
	first, second := slices.Collect(seq), slices.Collect(seq)
	if fmt.Sprint(first) != fmt.Sprint(second) {
		t.Fatalf("%s tells %v, and then %v", what, first, second)
	}
	for many := range len(first) {
		var l []T
		for x := range seq {
			if l = append(l, x); len(l) > many {
				break
			}
		}
		if fmt.Sprint(l) != fmt.Sprint(first[:many+1]) {
			t.Fatalf("%s, left early, tells %v of %v", what, l, first)
		}
	}
	return []any{first, second}
}

func outOf(t *testing.T, g api.Graph, id int64, labels ...string) []api.Link {
	t.Helper()
	return guarded(t, "Out", []any{g, labels}, func(in []any) []any {
		return twice(t, "Out", Out(in[0].(api.Graph), id, in[1].([]string)...))
	})[0].([]api.Link)
}

func into(t *testing.T, g api.Graph, id int64, labels ...string) []api.Link {
	t.Helper()
	return guarded(t, "In", []any{g, labels}, func(in []any) []any {
		return twice(t, "In", In(in[0].(api.Graph), id, in[1].([]string)...))
	})[0].([]api.Link)
}

func allOf(t *testing.T, g api.Graph, kind int, labels ...string) []api.Value {
	t.Helper()
	return guarded(t, "All", []any{g, labels}, func(in []any) []any {
		return twice(t, "All", All(in[0].(api.Graph), kind, in[1].([]string)...))
	})[0].([]api.Value)
}

func found(t *testing.T, g api.Graph, kind int, name string, v api.Value) []api.Value {
	t.Helper()
	return guarded(t, "Find", []any{g, v}, func(in []any) []any {
		return twice(t, "Find", Find(in[0].(api.Graph), kind, name, in[1].(api.Value)))
	})[0].([]api.Value)
}

func same(t *testing.T, a, b api.Graph) bool {
	t.Helper()
	return guarded(t, "Same", []any{a, b}, func(in []any) []any {
		return []any{Same(in[0].(api.Graph), in[1].(api.Graph))}
	})[0].(bool)
}

func clone(t *testing.T, g api.Graph) api.Graph {
	t.Helper()
	return guarded(t, "Clone", []any{g}, func(in []any) []any { return []any{Clone(in[0].(api.Graph))} })[0].(api.Graph)
}
