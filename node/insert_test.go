package node

import (
	"math/rand"
	"testing"

	"ramble/api"
)

func wantRemove(t *testing.T, n api.Node, key string, m api.Node, is bool) {
	t.Helper()
	got, gotIs := remove(t, n, key)
	want(t, "Remove("+tell(n)+", "+key+")", got, m)
	if gotIs != is {
		t.Fatalf("Remove(%s, %q): %v", tell(n), key, gotIs)
	}
}

// P8.2: a new key, ahead of, between and behind all, and one that is there.
func TestInsertAsWritten(t *testing.T) {
	want(t, "into none", insert(t, leaf(), here("a", "1")), leaf(here("a", "1")))
	n := leaf(here("b", "1"), here("d", "2"))
	want(t, "ahead", insert(t, n, here("a", "x")), leaf(here("a", "x"), here("b", "1"), here("d", "2")))
	want(t, "between", insert(t, n, over("c", 70, 9)), leaf(here("b", "1"), over("c", 70, 9), here("d", "2")))
	want(t, "behind", insert(t, n, here("dd", "")), leaf(here("b", "1"), here("d", "2"), here("dd", "")))
	want(t, "in the place of the first", insert(t, n, here("b", "x")), leaf(here("b", "x"), here("d", "2")))
	want(t, "in the place of the last", insert(t, n, over("d", 70, 9)), leaf(here("b", "1"), over("d", 70, 9)))
	want(t, "in the place of one in other pages", insert(t, leaf(over("d", 70, 9)), here("d", "")), leaf(here("d", "")))
}

// P8.2: cells and nodes that may not be are inserted, and left, as they are.
func TestInsertOfMayNot(t *testing.T) {
	bad := api.Cell{Key: nil, Val: []byte(long("v", 100)), Over: -1, Len: -7}
	want(t, "a cell that may not be", insert(t, leaf(here("a", "1")), bad), leaf(bad, here("a", "1")))
	far := here(long("z", 300), "")
	want(t, "a key that is too long", insert(t, leaf(here("a", "1")), far), leaf(here("a", "1"), far))
	m := inner("k l", 1, 2)
	m.Cells = []api.Cell{here("x", ""), here("c", "1"), here("x", "")}
	n := clone(t, m)
	n.Cells = []api.Cell{here("d", "2"), here("x", ""), here("c", "1"), here("x", "")}
	want(t, "an inner node", insert(t, m, here("d", "2")), n)
	n.Cells = []api.Cell{here("x", "3"), here("c", "1"), here("x", "")}
	want(t, "the first of two", insert(t, m, here("x", "3")), n)
	n.Cells = []api.Cell{here("c", "4"), here("x", ""), here("c", "1"), here("x", "")}
	want(t, "a key that stands where Find does not find it", insert(t, m, here("c", "4")), n)
	want(t, "the zero node", insert(t, api.Node{}, here("a", "")), api.Node{Cells: []api.Cell{here("a", "")}})
}

// P8.2: one that is there, and one that is not.
func TestRemoveAsWritten(t *testing.T) {
	n := leaf(here("b", "1"), over("d", 70, 9), here("da", "2"))
	wantRemove(t, n, "b", leaf(over("d", 70, 9), here("da", "2")), true)
	wantRemove(t, n, "d", leaf(here("b", "1"), here("da", "2")), true)
	wantRemove(t, n, "da", leaf(here("b", "1"), over("d", 70, 9)), true)
	for _, key := range []string{"", "a", "b\x00", "c", "d\x00", "db", "e", "\xff", long("d", 300)} {
		wantRemove(t, n, key, n, false)
	}
	wantRemove(t, leaf(here("b", "1")), "b", leaf(), true)
	wantRemove(t, leaf(), "b", leaf(), false)
	wantRemove(t, inner("b c", 1, 2, 3), "b", inner("b c", 1, 2, 3), false)
	wantRemove(t, api.Node{}, "", api.Node{}, false)
}

// P8.2: of cells that may not be the first one of the key goes, wherever it stands.
func TestRemoveOfMayNot(t *testing.T) {
	m := inner("k l", 1, 2)
	m.Cells = []api.Cell{here("x", "1"), here("c", "2"), here("", "3"), here("x", "4")}
	for key, cells := range map[string][]api.Cell{
		"x": {here("c", "2"), here("", "3"), here("x", "4")},
		"c": {here("x", "1"), here("", "3"), here("x", "4")},
		"":  {here("x", "1"), here("c", "2"), here("x", "4")},
	} {
		n := clone(t, m)
		n.Cells = cells
		wantRemove(t, m, key, n, true)
	}
	wantRemove(t, m, "a", m, false)
	wantRemove(t, m, "z", m, false)
}

// P8.7: what was inserted is found where it belongs, all else stays, and Remove of it is what was; for every place.
func TestInItsPlace(t *testing.T) {
	r := rand.New(rand.NewSource(82))
	for _, n := range anyNodes() {
		for _, key := range probes(n) {
			c := someCell(r, key)
			at, is := Find(n, c.Key)
			m := Insert(n, c)
			wanted := n
			wanted.Cells = append(append([]api.Cell{}, n.Cells[:at]...), c)
			if is {
				wanted.Cells = append(wanted.Cells, n.Cells[at+1:]...)
			} else {
				wanted.Cells = append(wanted.Cells, n.Cells[at:]...)
			}
			want(t, "Insert", m, wanted)
			if gotAt, is := Find(m, c.Key); gotAt != at || !is {
				t.Fatalf("Find of what was inserted into %s: %d, %v, want %d", tell(n), gotAt, is, at)
			}
			back, was := Remove(m, c.Key)
			if !was || !is && !Same(back, n) || len(back.Cells) != len(m.Cells)-1 {
				t.Fatalf("Remove of what was inserted into %s: %s, %v", tell(n), tell(back), was)
			}
			if mayBe(n) && n.Leaf && len(key) >= 1 && len(key) <= 96 && !mayBe(m) {
				t.Fatalf("Insert into %s: %s may not be", tell(n), tell(m))
			}
		}
	}
}

// P8.7: a leaf is the map of what was inserted and removed, in whatever order.
func TestLeafIsTheMap(t *testing.T) {
	r := rand.New(rand.NewSource(83))
	keys := someKeys(r, 12)
	n := leaf()
	held := map[string]api.Cell{}
	for range 600 {
		key := keys[r.Intn(len(keys))]
		if r.Intn(2) == 0 {
			c := someCell(r, key)
			held[key] = c
			n = insert(t, n, c)
		} else {
			_, was := held[key]
			delete(held, key)
			var is bool
			if n, is = remove(t, n, key); is != was {
				t.Fatalf("Remove(%q): %v", key, is)
			}
		}
		wanted := leaf()
		for _, key := range keys {
			if c, is := held[key]; is {
				wanted.Cells = append(wanted.Cells, c)
			}
		}
		want(t, "the leaf", n, wanted)
	}
}
