package value

import (
	"sort"

	"ramble/api"
)

// Parse is the value whose Text s is. ErrValue, if that value may not be; ErrText, if s is no Text,
// and the first place with which no text of a value that may be goes on so (s's length, if it ends too early).
func Parse(s string) (api.Value, int, api.Errno) {
	v, at, whole := read(s, false)
	if !whole {
		return api.Value{}, firstWrong(s, at), api.ErrText
	}
	if e := Check(v); e != api.OK {
		return api.Value{}, 0, e
	}
	return v, 0, api.OK
}

// firstWrong is the first place of s, last at the latest, with which no text of a value that may be goes on so.
// What a beginning can't become, a longer one can't either, so that places can be halved.
func firstWrong(s string, last int) int {
	if canGoOn(s[:last]) {
		return last
	}
	return sort.Search(last, func(i int) bool { return !canGoOn(s[:i+1]) })
}

// canGoOn tells whether s begins a text of a value that may be. What Check asks of values with such a text, its limits
// apart, are keys that rise: if one of them is right, the greatest is.
func canGoOn(s string) bool {
	v, _, whole := read(s, true)
	return whole && Check(v) == api.OK
}

// read is the value that s tells, be it one that may be or not, and whether s is a text of one; else where it is not.
func read(s string, open bool) (v api.Value, at int, whole bool) {
	defer func() {
		if p, gave := recover().(place); gave {
			v, at, whole = api.Value{}, int(p), false
		}
	}()
	r := &reader{text: s, open: open}
	v = r.value(1)
	if !r.ended() {
		r.giveUp()
	}
	return v, 0, true
}
