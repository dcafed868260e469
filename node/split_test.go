package node

import (
	"math"
	"math/rand"
	"slices"
	"strings"
	"testing"

	"ramble/api"
)

func wantSplit(t *testing.T, n, first api.Node, key string, second api.Node) {
	t.Helper()
	gotFirst, gotKey, gotSecond := split(t, n)
	want(t, "the first half of "+tell(n), gotFirst, first)
	want(t, "the second half of "+tell(n), gotSecond, second)
	if string(gotKey) != key {
		t.Fatalf("the key between the halves of %s: %q, want %q", tell(n), gotKey, key)
	}
}

// wantWhole holds that a node is not split.
func wantWhole(t *testing.T, n api.Node) {
	t.Helper()
	first, key, second := split(t, n)
	want(t, "what is not split", first, n)
	if key != nil || !isZero(second) {
		t.Fatalf("Split(%s): %q, %s", tell(n), key, tell(second))
	}
}

// P8.3: leaves of two and three cells, and such where several places are as good.
func TestSplitOfLeaves(t *testing.T) {
	a, b, c, d := here("a", "1"), here("b", "1"), here("c", "1"), here("d", "1")
	great := here("b", long("v", 64))
	wantSplit(t, leaf(a, b), leaf(a), "b", leaf(b))
	wantSplit(t, leaf(a, great), leaf(a), "b", leaf(great))
	wantSplit(t, leaf(great, c), leaf(great), "c", leaf(c))
	wantSplit(t, leaf(a, b, c, d), leaf(a, b), "c", leaf(c, d))
	// Both places make the greater half as great.
	wantSplit(t, leaf(a, b, c), leaf(a), "b", leaf(b, c))
	wantSplit(t, leaf(a, great, c), leaf(a), "b", leaf(great, c))
	// One byte more, or fewer, tells where.
	wantSplit(t, leaf(here("a", ""), great, c), leaf(here("a", ""), great), "c", leaf(c))
	wantSplit(t, leaf(here("a", "12"), great, c), leaf(here("a", "12")), "b", leaf(great, c))
	wantSplit(t, leaf(here("a", long("v", 60)), b, c, d), leaf(here("a", long("v", 60))), "b", leaf(b, c, d))
	wantSplit(t, leaf(a, b, c, here("d", long("v", 60))), leaf(a, b, c), "d", leaf(here("d", long("v", 60))))
	// A value in other pages counts as its cell's bytes, not as its own.
	e := here("e", "1")
	wantSplit(t, leaf(over("a", 1<<40, 9), b, c, d, e), leaf(over("a", 1<<40, 9), b), "c", leaf(c, d, e))
	wantSplit(t, leaf(here(long("a", 90), ""), over("b", 70, 9), c), leaf(here(long("a", 90), "")), "b", leaf(over("b", 70, 9), c))
}

// P8.3: inner nodes, the key at the place being in neither half.
func TestSplitOfInnerNodes(t *testing.T) {
	wantSplit(t, inner("a", 1, 2), inner("", 1), "a", inner("", 2))
	wantSplit(t, inner("a b c", 1, 2, 3, 4), inner("a", 1, 2), "b", inner("c", 3, 4))
	wantSplit(t, inner("a bbbbbb c", 1, 2, 3, 4), inner("a", 1, 2), "bbbbbb", inner("c", 3, 4))
	// Both places make the greater half as great.
	wantSplit(t, inner("a b", 1, 2, 3), inner("", 1), "a", inner("b", 2, 3))
	wantSplit(t, inner("a b c d", 1, 2, 3, 4, 5), inner("a", 1, 2), "b", inner("c d", 3, 4, 5))
	wantSplit(t, inner("a b", 300, 2, 300), inner("", 300), "a", inner("b", 2, 300))
	// One byte more of a key, or a kid, tells where.
	wantSplit(t, inner("a bb", 1, 2, 3), inner("a", 1, 2), "bb", inner("", 3))
	wantSplit(t, inner("a b", 1, 2, 300), inner("a", 1, 2), "b", inner("", 300))
	wantSplit(t, inner("a b", 300, 2, 3), inner("", 300), "a", inner("b", 2, 3))
	wantSplit(t, inner("aaaaaa b c d", 1, 2, 3, 4, 5), inner("aaaaaa", 1, 2), "b", inner("c d", 3, 4, 5))
	wantSplit(t, inner("aaaaaaa b c d", 1, 2, 3, 4, 5), inner("", 1), "aaaaaaa", inner("b c d", 2, 3, 4, 5))
	wantSplit(t, inner(long("a", 40)+" b c d", 1, 2, 3, 4, 5), inner("", 1), long("a", 40), inner("b c d", 2, 3, 4, 5))
	wantSplit(t, inner("a b c "+long("d", 40), 1, 2, 3, 4, 5), inner("a b c", 1, 2, 3, 4), long("d", 40), inner("", 5))
}

// P8.3: what can't be halved is answered whole.
func TestSplitOfWhole(t *testing.T) {
	odd := leaf(here("a", ""))
	odd.Keys, odd.Kids = [][]byte{[]byte("k"), []byte("l")}, []int{1, 2, 3}
	bare := inner("")
	bare.Cells = []api.Cell{here("a", ""), here("b", "")}
	for _, n := range []api.Node{
		{}, leaf(), leaf(here("a", "1")), leaf(here(long("k", 96), long("v", 64))), leaf(api.Cell{}), odd,
		inner("", 1), inner("", 1, 2, 3), inner("a"), inner("a", 1), inner("a b c"), inner("a b c", 1, 2, 3), inner("a b c", 1), bare,
	} {
		wantWhole(t, n)
	}
}

// P8.3: nodes that may not be: halves have what their kind has, kids that are too many stand in the second one.
func TestSplitOfMayNot(t *testing.T) {
	odd := leaf(here("b", "1"), here("a", "1"), here("a", "1"), here("", "12"))
	odd.Keys, odd.Kids = [][]byte{[]byte("k")}, []int{1, 2}
	wantSplit(t, odd, leaf(here("b", "1"), here("a", "1")), "a", leaf(here("a", "1"), here("", "12")))
	wantSplit(t, leaf(here("b", "1"), api.Cell{}), leaf(here("b", "1")), "", leaf(api.Cell{}))
	wantSplit(t, inner("a", 1, 2, 3, 4), inner("", 1), "a", inner("", 2, 3, 4))
	wantSplit(t, inner("b a", 1, 2, 3, 4, 5), inner("b", 1, 2), "a", inner("", 3, 4, 5))
	wantSplit(t, inner("b a", -1, 2, 3), inner("", -1), "b", inner("a", 2, 3))
	both := inner("a", 1, 2)
	both.Cells = []api.Cell{here("x", ""), here("y", "")}
	wantSplit(t, both, inner("", 1), "a", inner("", 2))
}

// halves are all ways to halve a node, with their keys between, from the least place on.
func halves(n api.Node) (firsts []api.Node, keys []string, seconds []api.Node) {
	if n.Leaf {
		for at := 1; at < len(n.Cells); at++ {
			firsts, seconds = append(firsts, leaf(n.Cells[:at]...)), append(seconds, leaf(n.Cells[at:]...))
			keys = append(keys, string(n.Cells[at].Key))
		}
		return firsts, keys, seconds
	}
	for at := 0; at < len(n.Keys) && len(n.Kids) > len(n.Keys); at++ {
		firsts = append(firsts, api.Node{Keys: n.Keys[:at], Kids: n.Kids[:at+1]})
		seconds = append(seconds, api.Node{Keys: n.Keys[at+1:], Kids: n.Kids[at+1:]})
		keys = append(keys, string(n.Keys[at]))
	}
	return firsts, keys, seconds
}

// wantBest holds Split against all ways to halve a node.
func wantBest(t *testing.T, n api.Node) {
	t.Helper()
	firsts, keys, seconds := halves(n)
	best, least := -1, math.MaxInt
	for i := range firsts {
		if greater := max(len(formOf(firsts[i])), len(formOf(seconds[i]))); greater < least {
			best, least = i, greater
		}
	}
	if best < 0 {
		wantWhole(t, n)
		return
	}
	wantSplit(t, n, firsts[best], keys[best], seconds[best])
}

// P8.3: of all places the one that makes the greater half least, in nodes of anything.
func TestSplitOfAny(t *testing.T) {
	for _, n := range anyNodes() {
		wantBest(t, n)
	}
}

// P8.3: a count above 127 takes a byte more, which may tell where: small ones, and a great one at either end.
func TestSplitOfMany(t *testing.T) {
	for _, count := range []int{126, 127, 128, 129, 130} {
		for great := 370; great <= 380; great++ {
			m := inner("", 1)
			for range count {
				m.Keys, m.Kids = append(m.Keys, []byte("a")), append(m.Kids, 1)
			}
			m.Keys[0] = make([]byte, great)
			wantBest(t, m)
			m.Keys[0], m.Keys[count-1] = m.Keys[count-1], m.Keys[0]
			wantBest(t, m)
		}
		for great := 495; great <= 510; great++ {
			n := leaf()
			for range count {
				n.Cells = append(n.Cells, here("a", ""))
			}
			n.Cells[0].Val = make([]byte, great)
			wantBest(t, n)
			n.Cells[0], n.Cells[count-1] = n.Cells[count-1], n.Cells[0]
			wantBest(t, n)
		}
	}
	for _, count := range []int{254, 255, 256, 257, 300} {
		wantBest(t, leaf(slices.Repeat([]api.Cell{here("a", "")}, count)...))
		wantBest(t, inner(strings.Repeat("a ", count), slices.Repeat([]int{1}, count+1)...))
	}
}

// wantHalves holds the halves of a node that may be against P8.6.
func wantHalves(t *testing.T, n api.Node) {
	t.Helper()
	first, key, second := Split(n)
	if Check(first) != api.OK || Check(second) != api.OK {
		t.Fatalf("halves of %s may not be:\n%s\n%s", tell(n), tell(first), tell(second))
	}
	whole := api.Node{Leaf: n.Leaf, Cells: append(first.Cells, second.Cells...), Kids: append(first.Kids, second.Kids...)}
	whole.Keys = first.Keys
	if !n.Leaf {
		whole.Keys = append(append(whole.Keys, key), second.Keys...)
	}
	want(t, "both halves", whole, n)
	for _, k := range append(cellKeysIn(first), keysIn(first)...) {
		if k >= string(key) {
			t.Fatalf("%q of the first half is not below %q", k, key)
		}
	}
	for _, k := range append(cellKeysIn(second), keysIn(second)...) {
		if k < string(key) {
			t.Fatalf("%q of the second half is below %q", k, key)
		}
	}
}

// wantRoom holds that both halves have room in a page.
func wantRoom(t *testing.T, n api.Node) {
	t.Helper()
	first, _, second := Split(n)
	for _, half := range []api.Node{first, second} {
		if _, e := Bytes(half); e != api.OK {
			t.Fatalf("a half of %d bytes, of %d bytes, has no room: %s", Size(half), Size(n), tell(half))
		}
	}
}

// splits tells whether a node that may be has two halves.
func splits(n api.Node) bool { return n.Leaf && len(n.Cells) > 1 || !n.Leaf && len(n.Keys) > 0 }

// P8.6: the halves of nodes that may be.
func TestHalves(t *testing.T) {
	for _, n := range may() {
		if splits(n) {
			wantHalves(t, n)
		}
		if splits(n) && Size(n) <= api.PageLen {
			wantRoom(t, n)
		}
	}
}

// P8.6: a page that is as full as can be, and one cell more, as great as can be, at each place.
func TestHalvesOfOneMore(t *testing.T) {
	r := rand.New(rand.NewSource(84))
	for range 60 {
		n, m := leaf(), inner("", 2047)
		for _, key := range someKeys(r, 60) {
			c := someCell(r, key)
			if r.Intn(3) == 0 {
				c = here(long(key, 96)[:96], long("v", 64))
			}
			if more := Insert(n, c); Check(more) == api.OK && Size(more) <= api.PageLen {
				n = more
			}
			at := Child(m, c.Key)
			if more := Adopt(m, at, c.Key, 1+r.Intn(2047)); Check(more) == api.OK && Size(more) <= api.PageLen {
				m = more
			}
		}
		for _, key := range append(probes(n), probes(m)...) {
			key = long(key, max(96, len(key)))[:96]
			if _, is := Find(n, []byte(key)); !is {
				more := Insert(n, here(key, long("v", 64)))
				wantHalves(t, more)
				wantRoom(t, more)
			}
			more := Adopt(m, Child(m, []byte(key)), []byte(key), 2047)
			if Check(more) == api.OK {
				wantHalves(t, more)
				wantRoom(t, more)
			}
		}
	}
}

// P8.6: few cells, each as great as can be, or as small, in every order, as long as all but one of them fit.
func TestHalvesOfGreatAndSmall(t *testing.T) {
	for count := 2; count <= 7; count++ {
		for great := range 1 << count {
			n, m := leaf(), inner("", 2047)
			for i := range count {
				key, val := string([]byte{byte('a' + i)}), ""
				if great>>i&1 == 1 {
					key, val = long(key, 96), long("v", 64)
				}
				n.Cells = append(n.Cells, here(key, val))
				m.Keys, m.Kids = append(m.Keys, []byte(key)), append(m.Kids, 2047)
			}
			for _, n := range []api.Node{n, m} {
				wantHalves(t, n)
				if fitsButOne(n) {
					wantRoom(t, n)
				}
			}
		}
	}
}

// fitsButOne tells whether a node without one of its cells, or of its keys with a kid, fits.
func fitsButOne(n api.Node) bool {
	for at := range n.Cells {
		if less, _ := Remove(n, n.Cells[at].Key); Size(less) <= api.PageLen {
			return true
		}
	}
	for at := range n.Keys {
		if Size(Disown(n, at+1)) <= api.PageLen {
			return true
		}
	}
	return false
}
