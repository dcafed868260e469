package node

import (
	"strings"
	"testing"

	"ramble/api"
)

func wantFind(t *testing.T, n api.Node, key string, at int, is bool) {
	t.Helper()
	if gotAt, gotIs := find(t, n, key); gotAt != at || gotIs != is {
		t.Errorf("Find(%.300s, %q): %d, %v, want %d, %v", tell(n), key, gotAt, gotIs, at, is)
	}
}

func wantChild(t *testing.T, n api.Node, key string, at int) {
	t.Helper()
	if got := child(t, n, key); got != at {
		t.Errorf("Child(%.300s, %q): %d, want %d", tell(n), key, got, at)
	}
}

// P8.2: ahead of all, at, between and behind all keys.
func TestFindAsWritten(t *testing.T) {
	n := leaf(here("b", "1"), here("d", "2"), over("da", 70, 1), here("\x80", ""))
	for _, c := range []struct {
		key string
		at  int
		is  bool
	}{
		{"", 0, false}, {"a", 0, false}, {"b", 0, true}, {"b\x00", 1, false}, {"c", 1, false}, {"d", 1, true}, {"d\x00", 2, false}, {"da", 2, true}, {"daa", 3, false},
		{"e", 3, false}, {"\x7f", 3, false}, {"\x80", 3, true}, {"\x80\x00", 4, false}, {"\xff", 4, false}, {strings.Repeat("\xff", 200), 4, false},
	} {
		wantFind(t, n, c.key, c.at, c.is)
	}
	wantFind(t, leaf(), "a", 0, false)
	wantFind(t, leaf(), "", 0, false)
	wantFind(t, api.Node{}, "a", 0, false)
	wantFind(t, inner("a b", 1, 2, 3), "a", 0, false)
	wantFind(t, inner("a b", 1, 2, 3), "z", 0, false)
}

// P8.2: cells that may not be are looked at one by one, too, be the node a leaf or not.
func TestFindOfMayNot(t *testing.T) {
	for _, isLeaf := range []bool{true, false} {
		n := api.Node{Leaf: isLeaf, Cells: []api.Cell{here("b", ""), here("d", ""), here("a", ""), here("d", ""), here("c", ""), here("x", "")}, Keys: [][]byte{[]byte("a")}}
		for _, c := range []struct {
			key string
			at  int
			is  bool
		}{
			{"", 0, false}, {"a", 0, false}, {"b", 0, true}, {"c", 1, false}, {"d", 1, true}, {"e", 5, false}, {"x", 5, true}, {"y", 6, false},
		} {
			wantFind(t, n, c.key, c.at, c.is)
		}
		n.Cells = []api.Cell{here("", ""), here("a", ""), here("a", "")}
		wantFind(t, n, "", 0, true)
		wantFind(t, n, "a", 1, true)
		wantFind(t, n, "b", 3, false)
	}
}

// P8.2: how many Keys are not above a key.
func TestChildAsWritten(t *testing.T) {
	n := inner("b d da \x80", 1, 2, 3, 4, 5)
	for key, at := range map[string]int{"": 0, "a": 0, "b": 1, "b\x00": 1, "c": 1, "d": 2, "d\x00": 2, "da": 3, "daa": 3, "e": 3, "\x7f": 3, "\x80": 4, "\x80\x00": 4, "\xff": 4, strings.Repeat("\xff", 200): 4} {
		wantChild(t, n, key, at)
	}
	wantChild(t, inner("", 1), "a", 0)
	wantChild(t, inner("m"), "m", 1)
	wantChild(t, api.Node{}, "", 0)
	wantChild(t, leaf(here("a", ""), here("b", "")), "z", 0)
}

// P8.2: all Keys that are not above count, where they do not rise, too.
func TestChildOfMayNot(t *testing.T) {
	for _, isLeaf := range []bool{true, false} {
		n := inner("d b c b x a")
		n.Leaf = isLeaf
		for key, at := range map[string]int{"": 0, "a": 1, "b": 3, "c": 4, "d": 5, "e": 5, "x": 6, "y": 6} {
			wantChild(t, n, key, at)
		}
		n.Keys = [][]byte{nil, []byte("a"), {}}
		wantChild(t, n, "", 2)
		wantChild(t, n, "a", 3)
	}
}

// P8.2: nodes of anything.
func TestFindAndChildOfAny(t *testing.T) {
	for _, n := range anyNodes() {
		for _, key := range probes(n) {
			keys := cellKeysIn(n)
			at := 0
			for at < len(keys) && keys[at] < key {
				at++
			}
			if gotAt, gotIs := Find(n, []byte(key)); gotAt != at || gotIs != (at < len(keys) && keys[at] == key) {
				t.Fatalf("Find(%s, %q): %d, %v, want %d", tell(n), key, gotAt, gotIs, at)
			}
			count := 0
			for _, k := range keysIn(n) {
				if k <= key {
					count++
				}
			}
			if got := Child(n, []byte(key)); got != count {
				t.Fatalf("Child(%s, %q): %d, want %d", tell(n), key, got, count)
			}
		}
	}
}

// P8.2: a leaf's cell is found where it is, and a kid by each key from the one ahead of it on.
func TestFindAndChildInTheirPlaces(t *testing.T) {
	for _, n := range may() {
		for at, c := range n.Cells {
			if gotAt, is := Find(n, c.Key); gotAt != at || !is {
				t.Fatalf("Find(%s, %q): %d, %v", tell(n), c.Key, gotAt, is)
			}
		}
		for at, key := range n.Keys {
			if got := Child(n, key); got != at+1 {
				t.Fatalf("Child(%s, %q): %d", tell(n), key, got)
			}
		}
	}
}
