package node

import (
	"bytes"
	"encoding/binary"
	"fmt"
	"math"
	"math/rand"
	"slices"
	"strings"
	"testing"

	"ramble/api"
)

// here is a cell whose value stands in it, over one whose value stands in other pages.
func here(key, val string) api.Cell { return api.Cell{Key: []byte(key), Val: []byte(val)} }

func over(key string, length, page int) api.Cell {
	return api.Cell{Key: []byte(key), Len: length, Over: page}
}

func leaf(cells ...api.Cell) api.Node { return api.Node{Leaf: true, Cells: cells} }

// inner is the inner node of these kids, and of the keys, which stand in a text with blanks between.
func inner(keys string, kids ...int) api.Node {
	n := api.Node{Kids: kids}
	for _, key := range strings.Fields(keys) {
		n.Keys = append(n.Keys, []byte(key))
	}
	return n
}

// long is a text of that many bytes that begins with s.
func long(s string, length int) string { return s + strings.Repeat(".", length-len(s)) }

// tell is all that a node has as a text, in which nil and empty lists are the same.
func tell(n api.Node) string {
	var s strings.Builder
	fmt.Fprintf(&s, "leaf %v cells", n.Leaf)
	for _, c := range n.Cells {
		fmt.Fprintf(&s, " %q:%q,%d,%d", c.Key, c.Val, c.Over, c.Len)
	}
	s.WriteString(" keys")
	for _, key := range n.Keys {
		fmt.Fprintf(&s, " %q", key)
	}
	s.WriteString(" kids")
	for _, kid := range n.Kids {
		fmt.Fprintf(&s, " %d", kid)
	}
	return s.String()
}

func want(t *testing.T, what string, got, want api.Node) {
	t.Helper()
	if tell(got) != tell(want) {
		t.Fatalf("%s:\ngot  %s\nwant %s", what, tell(got), tell(want))
	}
}

// isZero tells whether a node is the zero node, nil lists included.
func isZero(n api.Node) bool { return !n.Leaf && n.Cells == nil && n.Keys == nil && n.Kids == nil }

// The chapter's form, by the library's numbers.

func putUint(b []byte, n int) []byte { return binary.AppendUvarint(b, uint64(n)) }

func putText(b, text []byte) []byte { return append(putUint(b, len(text)), text...) }

func formOf(n api.Node) []byte {
	if !n.Leaf {
		b := putUint([]byte{2}, len(n.Keys))
		for _, key := range n.Keys {
			b = putText(b, key)
		}
		for _, kid := range n.Kids {
			b = putUint(b, kid)
		}
		return b
	}
	b := putUint([]byte{1}, len(n.Cells))
	for _, c := range n.Cells {
		b = putText(b, c.Key)
		if c.Over == 0 {
			b = putText(append(b, 0), c.Val)
		} else {
			b = putUint(putUint(append(b, 1), c.Len), c.Over)
		}
	}
	return b
}

// The chapter's sentence of nodes that may be.

func keysMayBe(keys []string) bool {
	for i, key := range keys {
		if len(key) < 1 || len(key) > 96 || i > 0 && keys[i-1] >= key {
			return false
		}
	}
	return true
}

func cellMayBe(c api.Cell) bool {
	switch {
	case c.Over < 0 || c.Over > 2047, len(c.Val) > 64:
		return false
	case c.Over == 0 && c.Len != 0:
		return false
	case c.Over != 0 && (len(c.Val) != 0 || c.Len < 65 || c.Len > 1099511627776):
		return false
	}
	return true
}

func mayBe(n api.Node) bool {
	if !n.Leaf {
		none := func(kid int) bool { return kid < 1 || kid > 2047 }
		return keysMayBe(keysIn(n)) && len(n.Cells) == 0 && len(n.Kids) == len(n.Keys)+1 && !slices.ContainsFunc(n.Kids, none)
	}
	none := func(c api.Cell) bool { return !cellMayBe(c) }
	return keysMayBe(cellKeysIn(n)) && len(n.Keys) == 0 && len(n.Kids) == 0 && !slices.ContainsFunc(n.Cells, none)
}

func keysIn(n api.Node) []string {
	var l []string
	for _, key := range n.Keys {
		l = append(l, string(key))
	}
	return l
}

func cellKeysIn(n api.Node) []string {
	var l []string
	for _, c := range n.Cells {
		l = append(l, string(c.Key))
	}
	return l
}

// filled is a leaf, or an inner node, that may be, of that many bytes, which must be 200 or more.
func filled(isLeaf bool, size int) api.Node {
	n := api.Node{Leaf: isLeaf}
	if !isLeaf {
		n.Kids = []int{5}
	}
	for i := 0; ; i++ {
		room := size - len(formOf(n))
		key := fmt.Sprintf("%03d", i)
		switch {
		case room == 0:
			return n
		case isLeaf && room >= 20:
			n.Cells = append(n.Cells, here(key, ""))
		case isLeaf && room >= 7:
			n.Cells = append(n.Cells, here(key, strings.Repeat("v", room-6)))
		case isLeaf:
			n.Cells = n.Cells[:len(n.Cells)-1]
		case room >= 20:
			n.Keys, n.Kids = append(n.Keys, []byte(key)), append(n.Kids, 9)
		case room >= 6:
			n.Keys, n.Kids = append(n.Keys, []byte(long(key, room-2))), append(n.Kids, 9)
		default:
			n.Keys, n.Kids = n.Keys[:len(n.Keys)-1], n.Kids[:len(n.Kids)-1]
		}
	}
}

// may are nodes that may be, with the edges that the chapter names, and some by chance; some have no room in a page.
func may() []api.Node {
	l := []api.Node{
		leaf(), leaf(here("a", "\x07")), leaf(here("\x00", "")), leaf(here("\x00", ""), here("\x00\x00", "")), leaf(here("\xff", "v"), here("\xff\x00", "")),
		leaf(here("a", ""), here("a\x00", ""), here("aa", ""), here("ab", ""), here("b", "")),
		leaf(here(long("k", 96), long("v", 64))), leaf(here(long("k", 95), long("v", 63)), here(long("k", 96), long("v", 64))),
		leaf(over("a", 65, 1)), leaf(over("a", 127, 127), over("b", 128, 128), over("c", 1<<40, 2047), over(long("d", 96), 1<<40-1, 2046)),
		leaf(here("c", long("v", 60)), over("d", 500, 7), here("e", "")),
		leaf(here(long("a", 96), long("v", 64)), here(long("b", 96), long("v", 64)), here(long("c", 96), long("v", 64))),
		inner("", 1), inner("", 2047), inner("m", 3, 4), inner("m", 127, 128), inner("a b c d", 1, 2047, 128, 128, 1),
		inner("a aa ab b", 5, 4, 3, 2, 1), inner(long("a", 96), 1, 2), inner(long("a", 95)+" "+long("a", 96)+" b", 1, 2, 3, 4),
		filled(true, 447), filled(true, 448), filled(true, 449), filled(false, 447), filled(false, 448), filled(false, 449),
	}
	r := rand.New(rand.NewSource(8))
	for range 300 {
		l = append(l, someLeaf(r, r.Intn(12)), someInner(r, r.Intn(12)))
	}
	return append(l, someLeaf(r, 130), someInner(r, 127), someInner(r, 128), someInner(r, 200))
}

// someKeys are that many keys that rise, most of them short and like one another.
func someKeys(r *rand.Rand, count int) []string {
	var l []string
	for len(l) < count {
		length := 1 + r.Intn(3)
		if r.Intn(6) == 0 {
			length = 1 + r.Intn(api.MaxKey)
		}
		key := make([]byte, length)
		for i := range key {
			key[i] = []byte{0, 1, 'a', 'b', 127, 128, 254, 255}[r.Intn(8)]
		}
		if !slices.Contains(l, string(key)) {
			l = append(l, string(key))
		}
	}
	slices.Sort(l)
	return l
}

// someCell is a cell of that key that may be.
func someCell(r *rand.Rand, key string) api.Cell {
	switch r.Intn(4) {
	case 0:
		return over(key, 65+r.Intn([]int{3, 300, 1 << 20, 1<<40 - 64}[r.Intn(4)]), 1+r.Intn(api.MaxPages-1))
	case 1:
		return here(key, "")
	}
	return here(key, strings.Repeat("v", r.Intn(api.MaxInline+1)))
}

func someLeaf(r *rand.Rand, count int) api.Node {
	n := leaf()
	for _, key := range someKeys(r, count) {
		n.Cells = append(n.Cells, someCell(r, key))
	}
	return n
}

func someInner(r *rand.Rand, count int) api.Node {
	n := api.Node{Kids: []int{1 + r.Intn(api.MaxPages-1)}}
	for _, key := range someKeys(r, count) {
		n.Keys = append(n.Keys, []byte(key))
		n.Kids = append(n.Kids, 1+r.Intn([]int{3, api.MaxPages - 1}[r.Intn(2)]))
	}
	return n
}

// mayNot are nodes that may not be: some as they are written, and some that are made by chance of all that a node can have.
func mayNot() []api.Node {
	l := []api.Node{
		{}, inner("a"), inner("a", 1), inner("a", 1, 2, 3), inner("", 0), inner("", 2048), inner("", -1), inner("", 1, 2), inner("b a", 1, 2, 3), inner("a a", 1, 2, 3),
		{Keys: [][]byte{nil}, Kids: []int{1, 2}}, {Keys: [][]byte{{}, []byte("a")}, Kids: []int{1, 2, 3}}, inner(long("a", 97), 1, 2), inner("a", math.MinInt, math.MaxInt),
		{Kids: []int{1}, Cells: []api.Cell{here("a", "")}}, {Cells: []api.Cell{here("b", ""), here("a", "")}},
		{Leaf: true, Keys: [][]byte{[]byte("a")}}, {Leaf: true, Kids: []int{1}}, {Leaf: true, Keys: [][]byte{nil}, Kids: []int{0}, Cells: []api.Cell{here("a", "")}},
		leaf(here("", "")), leaf(here("b", ""), here("a", "")), leaf(here("a", "1"), here("a", "2")), leaf(here("c", ""), here("a", ""), here("b", ""), here("a", "")), leaf(here(long("a", 97), "")),
		leaf(here("a", long("v", 65))), leaf(over("a", 65, -1)), leaf(over("a", 65, 2048)), leaf(over("a", 64, 1)), leaf(over("a", 0, 1)), leaf(over("a", 1<<40+1, 1)), leaf(over("a", 1, 0)),
		leaf(over("a", -1, 0)), leaf(over("a", math.MinInt, math.MinInt), over("b", math.MaxInt, math.MaxInt)), leaf(api.Cell{Key: []byte("a"), Val: []byte("v"), Over: 1, Len: 65}),
		leaf(here("a", strings.Repeat("v", 2000))), leaf(here(strings.Repeat("k", 2000), "")),
	}
	r := rand.New(rand.NewSource(80))
	for range 1500 {
		if n := wild(r); !mayBe(n) {
			l = append(l, n)
		}
	}
	return l
}

// wild is a node of anything.
func wild(r *rand.Rand) api.Node {
	n := api.Node{Leaf: r.Intn(2) == 0}
	key := func() []byte {
		if r.Intn(20) == 0 {
			return bytes.Repeat([]byte{'a'}, 90+r.Intn(50))
		}
		return bytes.Repeat([]byte{'a', 'b', 0, 255}[r.Intn(4):][:1], r.Intn(3))
	}
	number := func() int {
		if r.Intn(8) == 0 {
			return []int{math.MinInt, -1, api.MaxPages, 1 << 40, 1<<40 + 1, math.MaxInt}[r.Intn(6)]
		}
		return r.Intn(300)
	}
	for range r.Intn(5) * r.Intn(2) {
		n.Cells = append(n.Cells, api.Cell{Key: key(), Val: bytes.Repeat([]byte{'v'}, r.Intn(70)*r.Intn(2)), Over: number() * r.Intn(2), Len: number() * r.Intn(2)})
	}
	for range r.Intn(5) * r.Intn(2) {
		n.Keys = append(n.Keys, key())
	}
	for range r.Intn(7) * r.Intn(2) {
		n.Kids = append(n.Kids, number())
	}
	return n
}

// anyNodes are nodes of all sorts.
func anyNodes() []api.Node { return append(may(), mayNot()...) }

// probes are keys ahead of, at, between and behind all keys of a node.
func probes(n api.Node) []string {
	l := []string{"", "\x00", "a", "m", "\xff", long("\xff", 96), long("\xff", 200)}
	for _, key := range append(keysIn(n), cellKeysIn(n)...) {
		l = append(l, key, key+"\x00", key[:len(key)/2])
		if key != "" {
			last := len(key) - 1
			l = append(l, key[:last], key[:last]+string([]byte{key[last] - 1}), key[:last]+string([]byte{key[last] + 1}))
		}
	}
	slices.Sort(l)
	return slices.Compact(l)
}
