package delta

import (
	"cmp"
	"fmt"
	"reflect"
	"slices"
	"testing"

	"ramble/api"
)

// The tests reach the package through these calls: each is made with lists as they are, and with lists behind which there is room; nothing that is handed in may be changed, the room included, nothing that is answered may share memory with that or with another part of the answer (R3), and both answers must be one (R4, R6).

// roomy is v, in memory of its own, in which each list has room for two more that are not zero.
func roomy(v reflect.Value) reflect.Value {
	out := reflect.New(v.Type()).Elem()
	switch v.Kind() {
	case reflect.Slice:
		out.Set(reflect.MakeSlice(v.Type(), v.Len()+2, v.Len()+2))
		for i := range v.Len() {
			out.Index(i).Set(roomy(v.Index(i)))
		}
		for i := range 2 {
			setAll(out.Index(v.Len() + i))
		}
		return out.Slice(0, v.Len())
	case reflect.Struct:
		for i := range v.NumField() {
			out.Field(i).Set(roomy(v.Field(i)))
		}
		return out
	}
	out.Set(v)
	return out
}

// setAll makes all texts and numbers others than zero, but within lists.
func setAll(v reflect.Value) {
	switch v.Kind() {
	case reflect.String:
		v.SetString("a")
	case reflect.Int, reflect.Int64:
		v.SetInt(1)
	case reflect.Struct:
		for i := range v.NumField() {
			setAll(v.Field(i))
		}
	}
}

// lists are all lists that the parts have, each with all that it has room for.
func lists(parts []any) []reflect.Value {
	var l []reflect.Value
	for _, part := range parts {
		l = append(l, listsOf(reflect.ValueOf(part))...)
	}
	return l
}

func listsOf(v reflect.Value) []reflect.Value {
	var l []reflect.Value
	switch v.Kind() {
	case reflect.Slice:
		l = append(l, v.Slice(0, v.Cap()))
		for i := range v.Len() {
			l = append(l, listsOf(v.Index(i))...)
		}
	case reflect.Struct:
		for i := range v.NumField() {
			l = append(l, listsOf(v.Field(i))...)
		}
	}
	return l
}

// kept is a list, and what stood in it, the room behind it included. (What stands in lists within it is kept with those.)
type kept struct{ list, was reflect.Value }

func keep(l []reflect.Value) []kept {
	var out []kept
	for _, list := range l {
		was := reflect.MakeSlice(list.Type(), list.Len(), list.Len())
		reflect.Copy(was, list)
		out = append(out, kept{list, was})
	}
	return out
}

func wantKept(t *testing.T, what string, l []kept) {
	t.Helper()
	for _, k := range l {
		if k.list.Len() > 0 && !reflect.DeepEqual(k.list.Interface(), k.was.Interface()) {
			t.Fatalf("%s changed what it was handed:\n%v\nis now\n%v", what, k.was.Interface(), k.list.Interface())
		}
	}
}

// span is the memory of a list, with all that it has room for.
type span struct {
	from, to uintptr
	list     reflect.Value
	answered bool
}

func spans(l []reflect.Value, answered bool) []span {
	var out []span
	for _, list := range l {
		if length := uintptr(list.Len()) * list.Type().Elem().Size(); length > 0 {
			out = append(out, span{list.Pointer(), list.Pointer() + length, list, answered})
		}
	}
	return out
}

// wantApart fails if a list that was answered has memory in common with another one, or with one that was handed in.
func wantApart(t *testing.T, what string, handed, answered []reflect.Value) {
	t.Helper()
	l := append(spans(handed, false), spans(answered, true)...)
	slices.SortFunc(l, func(a, b span) int { return cmp.Compare(a.from, b.from) })
	for i, a := range l {
		for _, b := range l[i+1:] {
			if b.from >= a.to {
				break
			}
			if a.answered || b.answered {
				t.Fatalf("%s: %v and %v share memory", what, a.list.Interface(), b.list.Interface())
			}
		}
	}
}

// guarded makes a call, and holds it against R3; it is handed what the call gets, and tells what it answers.
func guarded(t *testing.T, what string, in []any, call func(in []any) []any) []any {
	t.Helper()
	plain := once(t, what, in, call)
	room := make([]any, len(in))
	for i := range in {
		room[i] = roomy(reflect.ValueOf(in[i])).Interface()
	}
	other := once(t, what+" with room", room, call)
	for i := range plain {
		if tellPart(plain[i]) != tellPart(other[i]) {
			t.Fatalf("%s of lists with room behind them is another:\n%s\n%s", what, tellPart(plain[i]), tellPart(other[i]))
		}
	}
	return plain
}

func tellPart(part any) string {
	switch x := part.(type) {
	case api.Graph:
		return tell(x)
	case Changes:
		return tellChanges(x)
	}
	return fmt.Sprintf("%v", part)
}

func once(t *testing.T, what string, in []any, call func(in []any) []any) []any {
	t.Helper()
	handed := lists(in)
	before := keep(handed)
	out := call(in)
	wantKept(t, what, before)
	wantApart(t, what, handed, lists(out))
	return out
}

func check(t *testing.T, c api.Change) api.Errno {
	t.Helper()
	return guarded(t, "Check", []any{c}, func(in []any) []any { return []any{Check(in[0].(api.Change))} })[0].(api.Errno)
}

func apply(t *testing.T, g api.Graph, l ...api.Change) (api.Graph, int, api.Errno) {
	t.Helper()
	out := guarded(t, "Apply", []any{g, l}, func(in []any) []any {
		g, many, err := Apply(in[0].(api.Graph), in[1].([]api.Change)...)
		return []any{g, many, err}
	})
	return out[0].(api.Graph), out[1].(int), out[2].(api.Errno)
}

func diff(t *testing.T, a, b api.Graph) Changes {
	t.Helper()
	return guarded(t, "Diff", []any{a, b}, func(in []any) []any {
		return []any{Diff(in[0].(api.Graph), in[1].(api.Graph))}
	})[0].(Changes)
}

func writes(t *testing.T, g api.Graph, l ...api.Change) []api.Value {
	t.Helper()
	return guarded(t, "Writes", []any{g, Changes(l)}, func(in []any) []any {
		return []any{in[1].(Changes).Writes(in[0].(api.Graph))}
	})[0].([]api.Value)
}

func needs(t *testing.T, l ...api.Change) []api.Value {
	t.Helper()
	return guarded(t, "Needs", []any{Changes(l)}, func(in []any) []any {
		return []any{in[0].(Changes).Needs()}
	})[0].([]api.Value)
}

func conflict(t *testing.T, g api.Graph, a, b Changes) bool {
	t.Helper()
	return guarded(t, "Conflict", []any{g, a, b}, func(in []any) []any {
		return []any{Conflict(in[0].(api.Graph), in[1].(Changes), in[2].(Changes))}
	})[0].(bool)
}

func same(t *testing.T, a, b Changes) bool {
	t.Helper()
	return guarded(t, "Same", []any{a, b}, func(in []any) []any {
		return []any{in[0].(Changes).Same(in[1].(Changes))}
	})[0].(bool)
}
