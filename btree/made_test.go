package btree

import (
	"testing"

	"ramble/api"
)

// P9.4, R5: of a tree that no call made: ErrMade, nothing, nil.
func TestTreeNotMade(t *testing.T) {
	refused, _ := Open(nil, 0)
	for _, x := range []*Tree{nil, {}, new(Tree), refused} {
		for _, key := range []string{"", "a", some(97, 1)} {
			wantGet(t, x, key, "", api.ErrMade)
			want(t, "Put", put(t, x, key, "1"), api.ErrMade)
			want(t, "Put", put(t, x, key, some(5000, 1)), api.ErrMade)
			if is, e := del(t, x, key); is || e != api.ErrMade {
				t.Errorf("Delete: %v, %d", is, e)
			}
			if c := x.Seek([]byte(key)); c != nil {
				t.Error("Seek is a cursor")
			}
			if l := all(t, x, key, ""); l != nil {
				t.Errorf("All: %v", l)
			}
		}
		if c := x.Last(); c != nil {
			t.Error("Last is a cursor")
		}
		if keys, pages, e := x.Check(); keys != 0 || pages != 0 || e != api.ErrMade {
			t.Errorf("Check: %d, %d, %d", keys, pages, e)
		}
	}
}

// P9.4, R5: of a cursor that no call made: ErrMade, nothing, false.
func TestCursorNotMade(t *testing.T) {
	var none *Tree
	for _, c := range []*Cursor{nil, {}, new(Cursor), none.Seek(nil), none.Last(), {Tree: new(Tree)}} {
		for range 2 {
			if k, is := c.Key(); k != nil || is {
				t.Errorf("Key: %q, %v", k, is)
			}
			if v, e := c.Val(); v != nil || e != api.ErrMade {
				t.Errorf("Val: %q, %d", v, e)
			}
			if c.Next() || c.Prev() {
				t.Error("it went on")
			}
		}
	}
	lost := filled(t, 3).x.Last()
	lost.Tree = nil
	if k, is := lost.Key(); k != nil || is || lost.Next() || lost.Prev() {
		t.Errorf("a cursor without its tree: %q, %v", k, is)
	}
	c := new(Cursor)
	if _, e := c.Get([]byte("a")); e != api.ErrMade {
		t.Errorf("Get: %d", e)
	}
	if c.Seek(nil) != nil || c.Last() != nil {
		t.Error("Seek and Last are cursors")
	}
}
