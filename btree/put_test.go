package btree

import (
	"fmt"
	"testing"

	"ramble/api"
)

// P9.1, P9.2, R1: which keys and values may be, and in which order wrong ones are told.
func TestLengths(t *testing.T) {
	r := newRig(t, 300, 100)
	r.put("there", "1")
	before := image(t, r.p)
	for _, key := range []string{"", some(api.MaxKey+1, 3), some(5000, 3)} {
		wantGet(t, r.x, key, "", api.ErrKey)
		want(t, "Put", put(t, r.x, key, "1"), api.ErrKey)
		want(t, "Put of much", put(t, r.x, key, some(api.MaxVal+1, 1)), api.ErrKey)
		if is, e := del(t, r.x, key); is || e != api.ErrKey {
			t.Fatalf("Delete of %d bytes: %v, %d", len(key), is, e)
		}
	}
	want(t, "Put of much", put(t, r.x, "there", some(api.MaxVal+1, 1)), api.ErrLong)
	want(t, "Put of much", put(t, r.x, "not there", some(1<<20, 1)), api.ErrLong)
	if image(t, r.p) != before {
		t.Fatal("the pages have changed")
	}
	for _, length := range []int{1, 2, api.MaxKey - 1, api.MaxKey} {
		r.put(some(length, 3), some(length, 4))
		r.same(fmt.Sprint("a key of ", length))
	}
	for _, length := range []int{1, 2, api.MaxKey - 1, api.MaxKey} {
		r.del(some(length, 3))
		r.same(fmt.Sprint("without the key of ", length))
	}
}

// R6: nil and empty are the same.
func TestNil(t *testing.T) {
	r := newRig(t, 300, 100)
	for _, none := range [][]byte{nil, {}} {
		if _, e := r.x.Get(none); e != api.ErrKey {
			t.Error("Get", e)
		}
		if e := r.x.Put(none, []byte("1")); e != api.ErrKey {
			t.Error("Put", e)
		}
		if is, e := r.x.Delete(none); is || e != api.ErrKey {
			t.Error("Delete", is, e)
		}
		want(t, "Put", r.x.Put([]byte("a"), none), api.OK)
		r.m["a"] = ""
		r.same("an empty value")
		r.put("b", "1")
		for _, other := range [][]byte{nil, {}} {
			n := 0
			for range r.x.All(none, other) {
				n++
			}
			if n != 2 {
				t.Errorf("All told %d keys", n)
			}
		}
		wantAt(t, "Seek", r.x.Seek(none), "a", "")
		r.del("b")
	}
}

// valueLengths are those of values about each edge: in the node, in a page, in two, in as many as may be.
var valueLengths = []int{0, 1, api.MaxInline - 1, api.MaxInline, api.MaxInline + 1, 127, 128, api.MaxChunk - 1, api.MaxChunk, api.MaxChunk + 1,
	2 * api.MaxChunk, 2*api.MaxChunk + 1, 9 * api.MaxChunk, 9*api.MaxChunk + 1, api.MaxVal - 1, api.MaxVal}

// P9.2, P9.6: a value in the place of each other one, shorter and longer, from the node into pages of its own and back; nothing is left over.
func TestValues(t *testing.T) {
	r := newRig(t, 900, 120)
	r.put("a", some(70, 1))
	r.put("c", some(500, 2))
	for _, first := range valueLengths {
		for i, second := range valueLengths {
			r.put("b", some(first, i))
			wantGet(t, r.x, "b", some(first, i), api.OK)
			r.counts("the first value")
			r.put("b", some(second, i+1))
			r.same(fmt.Sprintf("%d bytes in the place of %d", second, first))
		}
		r.commit()
		r.reopen()
		r.same(fmt.Sprint("opened anew behind ", first))
		r.del("b")
		r.same(fmt.Sprint("deleted behind ", first))
		r.commit()
	}
}

// P9.2: as many values as long as may be as there is room for, in keys as long as may be.
func TestLongValuesInLongKeys(t *testing.T) {
	r := newRig(t, api.MaxSlots, 400)
	for i := range 30 {
		r.put(wide(i*7%30), some(api.MaxVal-i, i))
		r.commit()
	}
	r.same("put")
	for i := range 30 {
		r.put(wide(i), some(i, i))
		r.counts("shorter")
		r.commit()
	}
	r.same("shorter")
}

// P9.1, P9.2: what is not there is not got, and Delete says so and changes nothing, in trees of any size.
func TestNotThere(t *testing.T) {
	r := newRig(t, 2000, 400)
	for i := range 120 {
		before := image(t, r.p)
		for _, key := range []string{"\x00", "0", wide(i), wide(i)[:95], wide(0)[:4], "9", "\xff"} {
			wantGet(t, r.x, key, "", api.ErrNone)
			r.del(key)
		}
		if image(t, r.p) != before {
			t.Fatalf("%d keys: the pages have changed", i)
		}
		r.put(wide(i), "")
		r.commit()
	}
}

// P9.2, P9.5: keys that begin with one another stand in the order of their bytes.
func TestKeysThatBeginAlike(t *testing.T) {
	r := newRig(t, 2000, 400)
	long := some(api.MaxKey, 200)
	for i := range api.MaxKey {
		r.put(long[:(i*37)%api.MaxKey+1], some(i, i))
		if len(long[:(i*37)%api.MaxKey+1]) < api.MaxKey {
			r.put(long[:(i*37)%api.MaxKey+1]+"\x00", "")
			r.put(long[:(i*37)%api.MaxKey+1]+"\xff", "")
		}
		r.commit()
	}
	r.same("put")
	for i := range api.MaxKey {
		r.del(long[:(i*5)%api.MaxKey+1])
		r.counts("deleted")
		r.commit()
	}
	r.same("deleted")
}

// P9.2: bytes of every kind are keys and values.
func TestAllBytes(t *testing.T) {
	r := newRig(t, 2000, 200)
	for b := range 256 {
		r.put(string([]byte{byte(b)}), string([]byte{byte(255 - b), 0, byte(b)}))
		r.put(string([]byte{byte(b), byte(b)}), "")
	}
	r.same("put")
}
