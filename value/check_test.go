package value

import (
	"testing"

	"ramble/api"
)

// P2.1: values up to every limit may be.
func TestCheckOfWhatMayBe(t *testing.T) {
	for _, v := range may() {
		if e := Check(v); e != api.OK {
			t.Errorf("Check(%.80s): %d", Text(v), e)
		}
	}
}

// P2.1: each fault is seen, one beyond each limit, and within others, too.
func TestCheckOfWhatMayNotBe(t *testing.T) {
	for _, v := range mayNot() {
		if e := Check(v); e != api.ErrValue {
			t.Errorf("Check(%.80s), Kind %d: %d", Text(v), v.Kind, e)
		}
	}
}

// P2.1: how deep is the deepest of all, not the first.
func TestCheckLooksEverywhere(t *testing.T) {
	deepest := within(Int(1), api.MaxDeep-1)
	for at := range 5 {
		l := ints(5)
		l[at] = deepest
		if e := Check(list(l...)); e != api.ErrValue {
			t.Errorf("too deep at %d: %d", at, e)
		}
		l[at] = deepest.L[0]
		if e := Check(list(l...)); e != api.OK {
			t.Errorf("just as deep as may be, at %d: %d", at, e)
		}
	}
}

// R6: an empty list is none.
func TestCheckOfEmptyLists(t *testing.T) {
	for _, v := range plain() {
		v.L = []api.Value{}
		if e := Check(v); e != api.OK {
			t.Errorf("Check(%s) with an empty list: %d", Text(v), e)
		}
	}
	if e := Check(api.Value{Kind: api.VList, L: []api.Value{}}); e != api.OK {
		t.Errorf("Check of an empty list: %d", e)
	}
}

// P1: a list that stands within itself is too deep, and Check ends.
func TestCheckOfAListWithinItself(t *testing.T) {
	l := make([]api.Value, 2)
	l[0], l[1] = list(l...), Int(1)
	if e := Check(l[0]); e != api.ErrValue {
		t.Errorf("as a list: %d", e)
	}
	l[0] = dict(l...)
	if e := Check(l[0]); e != api.ErrValue {
		t.Errorf("as a map: %d", e)
	}
	if _, e := List(l...); e != api.ErrValue {
		t.Errorf("List: %d", e)
	}
}
