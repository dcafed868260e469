package node

import (
	"math"
	"testing"

	"ramble/api"
)

func wantCheck(t *testing.T, n api.Node, e api.Errno) {
	t.Helper()
	if got := check(t, n); got != e {
		t.Errorf("Check(%.300s): %d, want %d", tell(n), got, e)
	}
}

// P8.1: nodes as they are written.
func TestCheckAsWritten(t *testing.T) {
	for _, n := range []api.Node{
		leaf(), leaf(here("a", "")), leaf(here("a", long("v", 64))), leaf(here(long("k", 96), "")), leaf(here("a", ""), here("aa", ""), here("ab", "")), leaf(here("\x7f", ""), here("\x80", "")),
		leaf(over("a", 65, 1)), leaf(over("a", 1<<40, 2047)), {Leaf: true, Cells: []api.Cell{}, Keys: [][]byte{}, Kids: []int{}}, leaf(api.Cell{Key: []byte("a"), Val: []byte{}, Over: 1, Len: 65}),
		inner("", 1), inner("", 2047), inner("m", 1, 1), inner("a aa b", 4, 3, 2, 1), inner(long("k", 96), 1, 2), {Cells: []api.Cell{}, Keys: [][]byte{}, Kids: []int{1}},
	} {
		wantCheck(t, n, api.OK)
	}
	for _, n := range []api.Node{
		{}, inner("a", 1), inner("a", 1, 2, 3), inner("a"), inner("", 1, 2), inner("", 0), inner("", -1), inner("", 2048), inner("a b", 1, 2, 2048), inner("a b", 0, 1, 2), inner("a b", 1, -5, 2),
		inner("a a", 1, 2, 3), inner("b a", 1, 2, 3), inner("aa a", 1, 2, 3), inner("a c b", 1, 2, 3, 4), inner(long("k", 97), 1, 2), {Keys: [][]byte{nil}, Kids: []int{1, 2}},
		{Cells: []api.Cell{here("a", "")}}, {Cells: []api.Cell{here("a", "")}, Kids: []int{1}}, {Cells: []api.Cell{{}}, Kids: []int{1}},
		{Leaf: true, Keys: [][]byte{[]byte("a")}}, {Leaf: true, Kids: []int{1}}, {Leaf: true, Keys: [][]byte{[]byte("a")}, Kids: []int{1, 2}}, {Leaf: true, Keys: [][]byte{{}}},
		leaf(api.Cell{}), leaf(here("", "v")), leaf(here(long("k", 97), "")), leaf(here("a", ""), here("a", "")), leaf(here("b", ""), here("a", "")), leaf(here("\x80", ""), here("\x7f", "")), leaf(here("aa", ""), here("a", "")),
		leaf(here("a", ""), here("c", ""), here("b", "")), leaf(here("a", ""), here("b", long("v", 65))), leaf(here("a", ""), over("b", 0, 1)),
	} {
		wantCheck(t, n, api.ErrNode)
	}
}

// P8.1: whatever stands in a cell beside its key, alone and with other cells around.
func TestCheckOfValues(t *testing.T) {
	for _, page := range []int{math.MinInt, -2048, -1, 0, 1, 2, 2046, 2047, 2048, 2049, 1 << 32, math.MaxInt} {
		for _, length := range []int{math.MinInt, -65, -1, 0, 1, 63, 64, 65, 66, 440, 1 << 32, 1<<40 - 1, 1 << 40, 1<<40 + 1, math.MaxInt} {
			for _, val := range []int{0, 1, 63, 64, 65, 66, 300} {
				c := api.Cell{Key: []byte("m"), Val: make([]byte, val), Over: page, Len: length}
				e := api.ErrNode
				if page == 0 && length == 0 && val <= 64 || page >= 1 && page <= 2047 && length >= 65 && length <= 1<<40 && val == 0 {
					e = api.OK
				}
				wantCheck(t, leaf(c), e)
				wantCheck(t, leaf(here("a", "v"), c), e)
				wantCheck(t, leaf(c, over("x", 70, 9)), e)
				wantCheck(t, leaf(here("a", "v"), c, over("x", 70, 9)), e)
			}
		}
	}
}

// P8.1: three keys of all sorts, of cells and between kids.
func TestCheckOfKeys(t *testing.T) {
	keys := []string{"", "\x00", "\x00\x00", "A", "a", "a\x00", "aa", "b", "\x7f", "\x80", "\xff", long("a", 95), long("a", 96), long("a", 97), long("b", 96), long("b", 97), long("b", 300)}
	for _, a := range keys {
		for _, b := range keys {
			for _, c := range keys {
				e := api.ErrNode
				if keysMayBe([]string{a, b, c}) {
					e = api.OK
				}
				wantCheck(t, leaf(here(a, "v"), here(b, ""), over(c, 99, 9)), e)
				wantCheck(t, api.Node{Keys: [][]byte{[]byte(a), []byte(b), []byte(c)}, Kids: []int{1, 2, 3, 4}}, e)
			}
		}
	}
}

// P8.1: kids of all sorts, at each place, and as many as there can be too few or too many.
func TestCheckOfKids(t *testing.T) {
	keys := []string{"", "a", "a b", "a b c"}
	for count, text := range keys {
		for kids := range 7 {
			n := inner(text)
			for i := range kids {
				n.Kids = append(n.Kids, i+1)
			}
			e := api.ErrNode
			if kids == count+1 {
				e = api.OK
			}
			wantCheck(t, n, e)
		}
	}
	for at := range 4 {
		for kid, e := range map[int]api.Errno{math.MinInt: api.ErrNode, -2047: api.ErrNode, -1: api.ErrNode, 0: api.ErrNode, 1: api.OK, 2: api.OK, 2046: api.OK, 2047: api.OK, 2048: api.ErrNode, 1<<32 + 1: api.ErrNode, math.MaxInt: api.ErrNode} {
			n := inner("a b c", 1, 2, 3, 4)
			n.Kids[at] = kid
			wantCheck(t, n, e)
		}
	}
}

// P8.1: a node that has what the other kind has.
func TestCheckOfBothKinds(t *testing.T) {
	for _, n := range may() {
		wantCheck(t, n, api.OK)
		n.Leaf = !n.Leaf
		wantCheck(t, n, api.ErrNode)
		n.Leaf = !n.Leaf
		if n.Leaf {
			for _, m := range []api.Node{inner("k"), inner("", 1), inner("k", 1, 2)} {
				m.Leaf, m.Cells = true, n.Cells
				wantCheck(t, m, api.ErrNode)
			}
			continue
		}
		n.Cells = leaf(here("k", "v")).Cells
		wantCheck(t, n, api.ErrNode)
	}
}

// P8.1: nodes of anything.
func TestCheckOfAny(t *testing.T) {
	for _, n := range anyNodes() {
		e := api.ErrNode
		if mayBe(n) {
			e = api.OK
		}
		wantCheck(t, n, e)
	}
}
