package txn

import (
	"cmp"
	"fmt"
	"reflect"
	"slices"
	"testing"

	"ramble/api"
	"ramble/delta"
)

// The tests reach the package through these calls. What is handed in has room behind each of its lists; it may not be changed, the room included, and is spoilt behind the call, so that nobody can have kept it. What is answered may share no memory with another part of it, and is spoilt, too, so that nobody can share it (R3). Beside an error nothing may be answered.

// roomy is v, in memory of its own, in which each list has room for two more that are not zero.
func roomy(v reflect.Value) reflect.Value {
	out := reflect.New(v.Type()).Elem()
	switch v.Kind() {
	case reflect.Slice:
		out.Set(reflect.MakeSlice(v.Type(), v.Len()+2, v.Len()+2))
		for i := range v.Len() {
			out.Index(i).Set(roomy(v.Index(i)))
		}
		for i := range 2 {
			setAll(out.Index(v.Len()+i), "a", 1)
		}
		return out.Slice(0, v.Len())
	case reflect.Struct:
		for i := range v.NumField() {
			out.Field(i).Set(roomy(v.Field(i)))
		}
		return out
	}
	out.Set(v)
	return out
}

// setAll makes all texts and numbers the same, but within lists.
func setAll(v reflect.Value, s string, n int64) {
	switch v.Kind() {
	case reflect.String:
		v.SetString(s)
	case reflect.Int, reflect.Int64:
		v.SetInt(n)
	case reflect.Struct:
		for i := range v.NumField() {
			setAll(v.Field(i), s, n)
		}
	}
}

// lists are all lists that v has, each with all that it has room for, the outer ones first.
func lists(v reflect.Value) []reflect.Value {
	var l []reflect.Value
	switch v.Kind() {
	case reflect.Slice:
		l = append(l, v.Slice(0, v.Cap()))
		for i := range v.Len() {
			l = append(l, lists(v.Index(i))...)
		}
	case reflect.Struct:
		for i := range v.NumField() {
			l = append(l, lists(v.Field(i))...)
		}
	}
	return l
}

// spoil changes what stands in all lists.
func spoil(l []reflect.Value) {
	for _, list := range l {
		for i := range list.Len() {
			setAll(list.Index(i), "spoilt", -77)
		}
	}
}

func images(l []reflect.Value) []string {
	var s []string
	for _, list := range l {
		s = append(s, fmt.Sprint(list.Interface()))
	}
	return s
}

// handing hands x to a call.
func handing[T any](t testing.TB, what string, x T, call func(x T)) {
	t.Helper()
	room := roomy(reflect.ValueOf(x))
	l := lists(room)
	before := images(l)
	call(room.Interface().(T))
	for i, now := range images(l) {
		if now != before[i] {
			t.Fatalf("%s changed what it was handed:\n%s\nis now\n%s", what, before[i], now)
		}
	}
	spoil(l)
}

// answered is the text of x, which is spoilt; with an error x must be nothing.
func answered[T any](t testing.TB, what string, x T, nothing bool, text func(x T) string) string {
	t.Helper()
	if nothing && !reflect.ValueOf(x).IsZero() {
		t.Fatalf("%s: %v, where nothing is to be answered", what, x)
	}
	s := text(x)
	l := lists(reflect.ValueOf(x))
	wantApart(t, what, l)
	spoil(l)
	return s
}

// wantApart fails if two lists have memory in common.
func wantApart(t testing.TB, what string, l []reflect.Value) {
	t.Helper()
	type span struct{ from, to uintptr }
	var spans []span
	for _, list := range l {
		if length := uintptr(list.Len()) * list.Type().Elem().Size(); length > 0 {
			spans = append(spans, span{list.Pointer(), list.Pointer() + length})
		}
	}
	slices.SortFunc(spans, func(a, b span) int { return cmp.Compare(a.from, b.from) })
	for i := 1; i < len(spans); i++ {
		if spans[i].from < spans[i-1].to {
			t.Fatalf("%s: two lists share memory", what)
		}
	}
}

// face is a manager with its calls.
type face struct {
	testing.TB
	m *Manager
}

func newOf(t testing.TB, g api.Graph) (face, api.Errno) {
	t.Helper()
	f := face{TB: t}
	var err api.Errno
	handing(t, "New", g, func(g api.Graph) { f.m, err = New(g) })
	if (err == api.OK) != (f.m != nil) {
		t.Fatalf("New: %v with the error %d", f.m, err)
	}
	return f, err
}

func (f face) begin() (int64, api.Errno) {
	f.Helper()
	id, err := f.m.Begin()
	f.wantNone("Begin", id, err)
	return id, err
}

func (f face) wantNone(what string, n int64, err api.Errno) {
	f.Helper()
	if err != api.OK && n != 0 {
		f.Fatalf("%s: %d beside the error %d", what, n, err)
	}
}

func (f face) see(id int64) (string, api.Errno) {
	f.Helper()
	g, err := f.m.See(id)
	return answered(f, "See", g, err != api.OK, tell), err
}

func (f face) do(id int64, l ...api.Change) api.Errno {
	f.Helper()
	var err api.Errno
	handing(f, "Do", l, func(l []api.Change) { err = f.m.Do(id, l...) })
	return err
}

func (f face) fresh(id int64) (int64, api.Errno) {
	f.Helper()
	n, err := f.m.Fresh(id)
	f.wantNone("Fresh", n, err)
	return n, err
}

func (f face) own(id int64) (string, api.Errno) {
	f.Helper()
	l, err := f.m.Own(id)
	return answered(f, "Own", l, err != api.OK, tellOwn), err
}

func tellOwn(l delta.Changes) string { return tellChanges(l) }

func (f face) commit(id int64) (int64, api.Errno) {
	f.Helper()
	version, err := f.m.Commit(id)
	f.wantNone("Commit", version, err)
	return version, err
}

func (f face) latest() string {
	f.Helper()
	return answered(f, "Latest", f.m.Latest(), false, tell)
}

func (f face) live() string {
	f.Helper()
	return answered(f, "Live", f.m.Live(), false, func(l []int64) string { return fmt.Sprint(l) })
}

func (f face) past(version int64) (string, bool) {
	f.Helper()
	l, is := f.m.Past(version)
	return answered(f, "Past", l, !is, tellOwn), is
}

// state is all that can be asked without changing a thing, as a text.
func (f face) state() string {
	f.Helper()
	s := fmt.Sprintf("version %d, live %s, graph %s", f.m.Version(), f.live(), f.latest())
	for _, id := range f.m.Live() {
		sees, err := f.see(id)
		own, err2 := f.own(id)
		s += fmt.Sprintf("\n%d sees %s (%d) by its own %s (%d)", id, sees, err, own, err2)
	}
	for version := int64(-1); version <= f.m.Version()+2; version++ {
		l, is := f.past(version)
		s += fmt.Sprintf("\npast %d: %s %v", version, l, is)
	}
	return s
}
