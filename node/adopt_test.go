package node

import (
	"fmt"
	"math"
	"testing"

	"ramble/api"
)

// P8.2: a key and a kid at each place, and at places that there are not.
func TestAdoptAsWritten(t *testing.T) {
	n := inner("b d", 1, 2, 3)
	for at, m := range map[int]api.Node{
		math.MinInt: inner("k b d", 1, 9, 2, 3),
		-1:          inner("k b d", 1, 9, 2, 3),
		0:           inner("k b d", 1, 9, 2, 3),
		1:           inner("b k d", 1, 2, 9, 3),
		2:           inner("b d k", 1, 2, 3, 9),
		3:           inner("b d k", 1, 2, 3, 9),
		math.MaxInt: inner("b d k", 1, 2, 3, 9),
	} {
		want(t, fmt.Sprint("Adopt at ", at), adopt(t, n, at, "k", 9), m)
	}
	for _, at := range []int{-1, 0, 1} {
		want(t, "one kid", adopt(t, inner("", 3), at, "m", 4), inner("m", 3, 4))
	}
}

// P8.2: with fewer kids than keys, as many, and more; a kid without a place goes behind all.
func TestAdoptOfMayNot(t *testing.T) {
	for _, at := range []int{-1, 0, 1, math.MaxInt} {
		want(t, "the zero node", adopt(t, api.Node{}, at, "k", 9), inner("k", 9))
	}
	for _, c := range []struct {
		n  api.Node
		at int
		m  api.Node
	}{
		{inner("a b"), 0, inner("k a b", 9)},
		{inner("a b"), 2, inner("a b k", 9)},
		{inner("a b c", 1), 0, inner("k a b c", 1, 9)},
		{inner("a b c", 1), 2, inner("a b k c", 1, 9)},
		{inner("a b c", 1, 2), 0, inner("k a b c", 1, 9, 2)},
		{inner("a b c", 1, 2), 1, inner("a k b c", 1, 2, 9)},
		{inner("a b c", 1, 2), 5, inner("a b c k", 1, 2, 9)},
		{inner("a", 1, 2, 3, 4), 0, inner("k a", 1, 9, 2, 3, 4)},
		{inner("a", 1, 2, 3, 4), 1, inner("a k", 1, 2, 9, 3, 4)},
		{inner("a", 1, 2, 3, 4), 4, inner("a k", 1, 2, 9, 3, 4)},
		{inner("", 1, 2, 3), 7, inner("k", 1, 9, 2, 3)},
	} {
		want(t, fmt.Sprint("Adopt of ", tell(c.n), " at ", c.at), adopt(t, c.n, c.at, "k", 9), c.m)
	}
	n := leaf(here("x", "1"), over("y", 70, 2))
	m := n
	m.Keys, m.Kids = [][]byte{{}}, []int{-7}
	want(t, "a leaf, and what may not be", adopt(t, n, 0, "", -7), m)
}

// P8.2: the kid at each place goes, with the key ahead of it; with the first one the key behind it.
func TestDisownAsWritten(t *testing.T) {
	n := inner("b d f", 1, 2, 3, 4)
	for at, m := range map[int]api.Node{
		math.MinInt: inner("d f", 2, 3, 4),
		-1:          inner("d f", 2, 3, 4),
		0:           inner("d f", 2, 3, 4),
		1:           inner("d f", 1, 3, 4),
		2:           inner("b f", 1, 2, 4),
		3:           inner("b d", 1, 2, 3),
		4:           inner("b d", 1, 2, 3),
		math.MaxInt: inner("b d", 1, 2, 3),
	} {
		want(t, fmt.Sprint("Disown at ", at), disown(t, n, at), m)
	}
	for _, at := range []int{-1, 0, 1, 2} {
		want(t, "the one kid", disown(t, inner("", 7), at), api.Node{})
	}
}

// P8.2: without kids, with fewer kids than keys, as many, and more; no key goes where there is none ahead of the kid.
func TestDisownOfMayNot(t *testing.T) {
	bare := inner("a b")
	bare.Cells = []api.Cell{here("x", "1")}
	for _, at := range []int{math.MinInt, -1, 0, 1, 2, math.MaxInt} {
		want(t, "without kids", disown(t, bare, at), bare)
		want(t, "the zero node", disown(t, api.Node{}, at), api.Node{})
		want(t, "a leaf", disown(t, leaf(here("a", "")), at), leaf(here("a", "")))
	}
	for _, c := range []struct {
		n  api.Node
		at int
		m  api.Node
	}{
		{inner("a b c", 1), 0, inner("b c")},
		{inner("a b c", 1), 3, inner("b c")},
		{inner("a b c", 1, 2), 0, inner("b c", 2)},
		{inner("a b c", 1, 2), 1, inner("b c", 1)},
		{inner("a b c", 1, 2), 2, inner("b c", 1)},
		{inner("a b c", 1, 2, 3), 2, inner("a c", 1, 2)},
		{inner("", 1, 2, 3), 0, inner("", 2, 3)},
		{inner("", 1, 2, 3), 1, inner("", 1, 3)},
		{inner("", 1, 2, 3), 2, inner("", 1, 2)},
		{inner("a", 1, 2, 3, 4), 0, inner("", 2, 3, 4)},
		{inner("a", 1, 2, 3, 4), 1, inner("", 1, 3, 4)},
		{inner("a", 1, 2, 3, 4), 2, inner("a", 1, 2, 4)},
		{inner("a", 1, 2, 3, 4), 3, inner("a", 1, 2, 3)},
		{inner("a", 1, 2, 3, 4), 9, inner("a", 1, 2, 3)},
	} {
		want(t, fmt.Sprint("Disown of ", tell(c.n), " at ", c.at), disown(t, c.n, c.at), c.m)
	}
	n := leaf(here("x", "1"))
	n.Keys, n.Kids = [][]byte{{}, []byte("b")}, []int{-7, 8}
	m := leaf(here("x", "1"))
	m.Keys, m.Kids = [][]byte{[]byte("b")}, []int{-7}
	want(t, "a leaf with kids", disown(t, n, 1), m)
}

// P8.2: nodes of anything, at places all around.
func TestAdoptAndDisownOfAny(t *testing.T) {
	for _, n := range mayNot() {
		for at := -2; at < 9; at++ {
			key := min(max(at, 0), len(n.Keys))
			kid := min(key+1, len(n.Kids))
			m := n
			m.Keys = append(append(append([][]byte{}, n.Keys[:key]...), []byte("k")), n.Keys[key:]...)
			m.Kids = append(append(append([]int{}, n.Kids[:kid]...), 9), n.Kids[kid:]...)
			want(t, "Adopt", Adopt(n, at, []byte("k"), 9), m)
			if len(n.Kids) == 0 {
				want(t, "Disown", Disown(n, at), n)
				continue
			}
			m = n
			kid = min(max(at, 0), len(n.Kids)-1)
			m.Kids = append(append([]int{}, n.Kids[:kid]...), n.Kids[kid+1:]...)
			if key := max(kid, 1); key <= len(n.Keys) {
				m.Keys = append(append([][]byte{}, n.Keys[:key-1]...), n.Keys[key:]...)
			}
			want(t, "Disown", Disown(n, at), m)
		}
	}
}

// P8.2: Disown of what was adopted is what was; of nodes that may be, the rest may be.
func TestDisownOfAdopted(t *testing.T) {
	for _, n := range may() {
		if n.Leaf {
			continue
		}
		for at := range n.Kids {
			m := Adopt(n, at, []byte("k"), 9)
			if string(m.Keys[at]) != "k" || m.Kids[at+1] != 9 {
				t.Fatalf("Adopt at %d: %s", at, tell(m))
			}
			want(t, "Disown of Adopt", Disown(m, at+1), n)
			if len(n.Kids) > 1 && !mayBe(Disown(n, at)) {
				t.Fatalf("Disown of %s at %d: %s", tell(n), at, tell(Disown(n, at)))
			}
		}
	}
}
