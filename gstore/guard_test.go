package gstore

import (
	"cmp"
	"fmt"
	"iter"
	"reflect"
	"slices"
	"testing"

	"ramble/api"
	"ramble/value"
)

// The tests reach the package through these calls. What is handed in has room behind each of its lists; it may not be changed, the room included, and is spoilt behind the call, so that nobody can have kept it. What is answered may share no memory with another part of it, and is spoilt, too, so that nobody can share it (R3).

// roomy is v, in memory of its own, in which each list has room for two more that are not zero.
func roomy(v reflect.Value) reflect.Value {
	out := reflect.New(v.Type()).Elem()
	switch v.Kind() {
	case reflect.Slice:
		out.Set(reflect.MakeSlice(v.Type(), v.Len()+2, v.Len()+2))
		for i := range v.Len() {
			out.Index(i).Set(roomy(v.Index(i)))
		}
		for i := range 2 {
			setAll(out.Index(v.Len()+i), "a", 1)
		}
		return out.Slice(0, v.Len())
	case reflect.Struct:
		for i := range v.NumField() {
			out.Field(i).Set(roomy(v.Field(i)))
		}
		return out
	}
	out.Set(v)
	return out
}

// setAll makes all texts and numbers the same, but within lists.
func setAll(v reflect.Value, s string, n int64) {
	switch v.Kind() {
	case reflect.String:
		v.SetString(s)
	case reflect.Int, reflect.Int64:
		v.SetInt(n)
	case reflect.Struct:
		for i := range v.NumField() {
			setAll(v.Field(i), s, n)
		}
	}
}

// lists are all lists that v has, each with all that it has room for, the outer ones first.
func lists(v reflect.Value) []reflect.Value {
	var l []reflect.Value
	switch v.Kind() {
	case reflect.Slice:
		l = append(l, v.Slice(0, v.Cap()))
		for i := range v.Len() {
			l = append(l, lists(v.Index(i))...)
		}
	case reflect.Struct:
		for i := range v.NumField() {
			l = append(l, lists(v.Field(i))...)
		}
	}
	return l
}

// spoil changes what stands in all lists.
func spoil(l []reflect.Value) {
	for _, list := range l {
		for i := range list.Len() {
			setAll(list.Index(i), "spoilt", -77)
		}
	}
}

func images(l []reflect.Value) []string {
	var s []string
	for _, list := range l {
		s = append(s, fmt.Sprint(list.Interface()))
	}
	return s
}

// handing hands x to a call.
func handing[T any](t testing.TB, what string, x T, call func(x T)) {
	t.Helper()
	room := roomy(reflect.ValueOf(x))
	l := lists(room)
	before := images(l)
	call(room.Interface().(T))
	for i, now := range images(l) {
		if now != before[i] {
			t.Fatalf("%s changed what it was handed:\n%s\nis now\n%s", what, before[i], now)
		}
	}
	spoil(l)
}

// answered is the text of x, which is spoilt.
func answered[T any](t testing.TB, what string, x T, text func(x T) string) string {
	t.Helper()
	s := text(x)
	l := lists(reflect.ValueOf(x))
	wantApart(t, what, l)
	spoil(l)
	return s
}

// wantApart fails if two lists have memory in common.
func wantApart(t testing.TB, what string, l []reflect.Value) {
	t.Helper()
	type span struct{ from, to uintptr }
	var spans []span
	for _, list := range l {
		if length := uintptr(list.Len()) * list.Type().Elem().Size(); length > 0 {
			spans = append(spans, span{list.Pointer(), list.Pointer() + length})
		}
	}
	slices.SortFunc(spans, func(a, b span) int { return cmp.Compare(a.from, b.from) })
	for i := 1; i < len(spans); i++ {
		if spans[i].from < spans[i-1].to {
			t.Fatalf("%s: two lists share memory", what)
		}
	}
}

func save(t testing.TB, s *Store, g api.Graph) api.Errno {
	t.Helper()
	var err api.Errno
	handing(t, "Save", g, func(g api.Graph) { err = s.Save(g) })
	return err
}

// load is Load's graph as a text; with an error the graph must be empty.
func load(t testing.TB, s *Store) (string, api.Errno) {
	t.Helper()
	g, err := s.Load()
	if err != api.OK && !reflect.DeepEqual(g, api.Graph{}) {
		t.Fatalf("Load: a graph beside the error %d", err)
	}
	return answered(t, "Load", g, tell), err
}

// vertexOf and linkOf are V and E as texts; with an error nothing may be beside it.
func vertexOf(t testing.TB, s *Store, id int64) (string, api.Errno) {
	t.Helper()
	x, err := s.V(id)
	if err != api.OK && !reflect.DeepEqual(x, api.Vertex{}) {
		t.Fatalf("V(%d): %v beside the error %d", id, x, err)
	}
	return answered(t, "V", x, tellVertex), err
}

func linkOf(t testing.TB, s *Store, id int64) (string, api.Errno) {
	t.Helper()
	x, err := s.E(id)
	if err != api.OK && !reflect.DeepEqual(x, api.Link{}) {
		t.Fatalf("E(%d): %v beside the error %d", id, x, err)
	}
	return answered(t, "E", x, tellLink), err
}

// countsOf is Counts; with an error nothing may be beside it.
func countsOf(t testing.TB, s *Store) ([3]int64, api.Errno) {
	t.Helper()
	vertices, edges, last, err := s.Counts()
	l := [3]int64{int64(vertices), int64(edges), last}
	if err != api.OK && l != [3]int64{} {
		t.Fatalf("Counts: %v beside the error %d", l, err)
	}
	return l, err
}

// toldBy is what is told as texts, each spoilt as soon as it is told; gone through a second time, it is the same.
func toldBy[T any](t testing.TB, what string, seq iter.Seq[T], text func(x T) string) []string {
	t.Helper()
	once := func() []string {
		var l []string
		for x := range seq {
			l = append(l, answered(t, what, x, text))
		}
		return l
	}
	first := once()
	if again := once(); !slices.Equal(first, again) {
		t.Fatalf("%s: told %q, and then %q", what, first, again)
	}
	return first
}

// A way asks for what is told by labels.
type way[T any] func(labels ...string) iter.Seq[T]

// toldWith is what a way tells with labels, which are spoilt ahead of going through it.
func toldWith[T any](t testing.TB, what string, ask way[T], labels []string, text func(x T) string) []string {
	t.Helper()
	var seq iter.Seq[T]
	handing(t, what, labels, func(labels []string) { seq = ask(labels...) })
	return toldBy(t, what, seq, text)
}

func outOf(s *Store, id int64) way[api.Link] {
	return func(labels ...string) iter.Seq[api.Link] { return s.Out(id, labels...) }
}

func inOf(s *Store, id int64) way[api.Link] {
	return func(labels ...string) iter.Seq[api.Link] { return s.In(id, labels...) }
}

func allOf(s *Store, kind int) way[api.Value] {
	return func(labels ...string) iter.Seq[api.Value] { return s.All(kind, labels...) }
}

// found is what Find tells.
func found(t testing.TB, s *Store, kind int, name string, v api.Value) []string {
	t.Helper()
	var seq iter.Seq[api.Value]
	handing(t, "Find", v, func(v api.Value) { seq = s.Find(kind, name, v) })
	return toldBy(t, "Find", seq, value.Text)
}
