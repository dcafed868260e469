package node

import (
	"bytes"
	"encoding/binary"
	"math"
	"math/rand"
	"testing"

	"ramble/api"
)

// loose reads a form without looking whether it is one: whoever asks lays it out again and compares.
type loose struct {
	rest  []byte
	ended bool
}

func (l *loose) number() int {
	u, length := binary.Uvarint(l.rest)
	if length <= 0 {
		l.rest, l.ended = nil, true
		return 0
	}
	l.rest = l.rest[length:]
	return int(u)
}

func (l *loose) text() []byte {
	length := l.number()
	if length < 0 || length > len(l.rest) {
		l.rest, l.ended = nil, true
		return nil
	}
	text := l.rest[:length]
	l.rest = l.rest[length:]
	return bytes.Clone(text)
}

func (l *loose) node() api.Node {
	var n api.Node
	switch l.number() {
	case 1:
		n.Leaf = true
		for i := l.number(); i > 0 && !l.ended; i-- {
			c := api.Cell{Key: l.text()}
			if l.number() == 0 {
				c.Val = l.text()
			} else {
				c.Len, c.Over = l.number(), l.number()
			}
			n.Cells = append(n.Cells, c)
		}
	case 2:
		for i := l.number(); i > 0 && !l.ended; i-- {
			n.Keys = append(n.Keys, l.text())
		}
		for range len(n.Keys) + 1 {
			n.Kids = append(n.Kids, l.number())
		}
	}
	return n
}

// nodeOf is the node that may be whose form b is, and whether there is one.
func nodeOf(b []byte) (api.Node, bool) {
	n := (&loose{rest: b}).node()
	if len(b) > 448 || !mayBe(n) || !bytes.Equal(formOf(n), b) {
		return api.Node{}, false
	}
	return n, true
}

func wantNode(t *testing.T, b []byte, n api.Node) {
	t.Helper()
	if got, e := parse(t, b); e != api.OK || tell(got) != tell(n) {
		t.Fatalf("Parse(%v): %s, %d, want %s", b, tell(got), e, tell(n))
	}
}

func wantNone(t *testing.T, b []byte) {
	t.Helper()
	if n, e := parse(t, b); e != api.ErrNode || !isZero(n) {
		t.Fatalf("Parse(%v): %s, %d, want ErrNode", b, tell(n), e)
	}
}

// wantParse holds Parse against the model, without the guard, which would take long.
func wantParse(t *testing.T, b []byte) {
	t.Helper()
	n, is := nodeOf(b)
	got, e := Parse(b)
	if is && (e != api.OK || tell(got) != tell(n)) || !is && (e != api.ErrNode || !isZero(got)) {
		t.Fatalf("Parse(%v): %s, %d, want %s, %v", b, tell(got), e, tell(n), is)
	}
}

// P8.1: nodes as they are written.
func TestParseAsWritten(t *testing.T) {
	wantNode(t, []byte{1, 1, 1, 97, 0, 1, 7}, leaf(here("a", "\x07")))
	wantNode(t, []byte{2, 1, 1, 109, 3, 4}, inner("m", 3, 4))
	wantNode(t, []byte{1, 0}, leaf())
	wantNode(t, []byte{2, 0, 1}, inner("", 1))
	wantNode(t, []byte{1, 2, 1, 97, 1, 0xf4, 3, 0xff, 15, 2, 97, 97, 0, 0}, leaf(over("a", 500, 2047), here("aa", "")))
	wantNode(t, []byte{1, 1, 1, 97, 1, 128, 128, 128, 128, 128, 32, 1}, leaf(over("a", 1<<40, 1)))
}

// P8.1, P8.5: Parse of Bytes is the node; what is parsed has those bytes; no beginning of them is a form, nor are they with a byte behind.
func TestThereAndBack(t *testing.T) {
	for _, n := range may() {
		b, e := Bytes(n)
		if e == api.ErrLong {
			wantNone(t, formOf(n))
			continue
		}
		wantNode(t, b, n)
		got, _ := Parse(b)
		if again, e := Bytes(got); e != api.OK || !bytes.Equal(again, b) {
			t.Fatalf("Bytes of Parse(%v): %v, %d", b, again, e)
		}
		for i := range b {
			wantNone(t, b[:i])
		}
		for _, tail := range []byte{0, 1, 2, 127, 128, 255} {
			wantNone(t, append(bytes.Clone(b), tail))
		}
		wantNone(t, append(bytes.Clone(b), b...))
	}
}

// P8.1: a page's bytes, and one more, of which the form is right.
func TestParseOfAPage(t *testing.T) {
	for _, isLeaf := range []bool{true, false} {
		for length := 440; length <= 448; length++ {
			n := filled(isLeaf, length)
			wantNode(t, formOf(n), n)
		}
		for _, length := range []int{449, 450, 500, 2000} {
			wantNone(t, formOf(filled(isLeaf, length)))
		}
	}
	wantNone(t, make([]byte, 448))
	wantNone(t, make([]byte, 449))
	wantNone(t, make([]byte, 1<<20))
	wantNone(t, bytes.Repeat([]byte{1}, 448))
	wantNone(t, bytes.Repeat([]byte{128}, 448))
}

// P8.1: forms of nodes that may not be.
func TestParseOfMayNot(t *testing.T) {
	for _, n := range mayNot() {
		b := formOf(n)
		if m, is := nodeOf(b); is {
			wantNode(t, b, m) // What the form does not say was wrong alone.
		} else {
			wantNone(t, b)
		}
	}
	for _, n := range []api.Node{
		{}, inner("a", 1), inner("a", 1, 2, 3), inner("", 0), inner("", 2048), inner("", math.MaxInt), inner("", -1), inner("a b", 1, 0, 1), inner("b a", 1, 2, 3), inner("a a", 1, 2, 3), inner(long("k", 97), 1, 2), {Keys: [][]byte{nil}, Kids: []int{1, 2}},
		leaf(here("", "")), leaf(here(long("k", 97), "")), leaf(here("a", long("v", 65))), leaf(here("a", ""), here("a", "")), leaf(here("b", ""), here("a", "")),
		leaf(over("a", 64, 1)), leaf(over("a", 0, 1)), leaf(over("a", 1<<40+1, 1)), leaf(over("a", -1, 1)), leaf(over("a", math.MinInt, 1)), leaf(over("a", 65, 2048)), leaf(over("a", 65, -1)),
	} {
		wantNone(t, formOf(n))
	}
	// A value in other pages, from the page 0 on, of no bytes and of some: a cell with an Over of 0 has another form.
	wantNone(t, []byte{1, 1, 1, 97, 1, 0, 0})
	wantNone(t, []byte{1, 1, 1, 97, 1, 65, 0})
}

// P8.1: bytes other than 1 and 2 ahead, and other than 0 and 1 ahead of a value.
func TestParseOfMarks(t *testing.T) {
	for mark := range 256 {
		c := byte(mark)
		if mark != 1 {
			wantNone(t, []byte{c, 0})
			wantNone(t, []byte{c, 1, 1, 97, 0, 1, 7})
		}
		if mark != 2 {
			wantNone(t, []byte{c, 0, 1})
			wantNone(t, []byte{c, 1, 1, 109, 3, 4})
		}
		if mark != 0 {
			wantNone(t, []byte{1, 1, 1, 97, c, 1, 7, 7})
			wantNone(t, []byte{1, 1, 1, 97, c, 0})
		}
		if mark != 1 {
			wantNone(t, []byte{1, 1, 1, 97, c, 65, 1})
		}
		wantNone(t, []byte{c})
	}
	wantNone(t, nil)
	wantNone(t, []byte{})
}

// P8.1: numbers that are not in num's form, that have no end, or that no int is, at each place where a number stands.
func TestParseOfNumbers(t *testing.T) {
	leaves := [][]byte{{1, '#', 1, 97, 0, 1, 7}, {1, 1, '#', 97, 0, 1, 7}, {1, 1, 1, 97, 0, '#', 7}, {1, 1, 1, 97, 1, 65, '#'}, {1, 1, 1, 97, '#', 1, 7}, {'#', 1, 1, 97, 0, 1, 7}}
	inners := [][]byte{{2, '#', 1, 109, 3, 4}, {2, 1, '#', 109, 3, 4}, {2, 1, 1, 109, '#', 4}, {2, 1, 1, 109, 3, '#'}}
	numbers := [][]byte{{129, 0}, {129, 128, 0}, {128, 0}, {255, 255, 255, 255, 255, 255, 255, 255, 255, 2}, {129, 128, 128, 128, 128, 128, 128, 128, 128, 0}, {129, 128, 128, 128, 128, 128, 128, 128, 128, 128, 1}}
	numbers = append(numbers, []byte{128}, []byte{129, 128}, bytes.Repeat([]byte{255}, 9), bytes.Repeat([]byte{255}, 10), bytes.Repeat([]byte{128}, 30))
	for _, u := range []uint64{1 << 31, 1<<32 + 1, 1<<40 + 2, 1 << 62, 1<<63 - 1, 1 << 63, 1<<63 + 1, math.MaxUint64 - 1, math.MaxUint64} {
		numbers = append(numbers, binary.AppendUvarint(nil, u))
	}
	for _, number := range numbers {
		for _, form := range append(leaves, inners...) {
			wantNone(t, bytes.Replace(form, []byte{'#'}, number, 1))
		}
		if number[len(number)-1] > 127 || number[len(number)-1] == 0 || len(number) > 6 {
			wantNone(t, bytes.Replace([]byte{1, 1, 1, 97, 1, '#', 1}, []byte{'#'}, number, 1))
		}
	}
	// The same places take a number that is right.
	for _, form := range append(leaves[:4:4], inners...) {
		if _, e := Parse(bytes.Replace(form, []byte{'#'}, []byte{1}, 1)); e != api.OK {
			t.Errorf("Parse(%q): %d", form, e)
		}
	}
}

// P8.1: counts greater than what stands there, or less, however great.
func TestParseOfCounts(t *testing.T) {
	for _, n := range []api.Node{leaf(), leaf(here("a", "v"), over("b", 70, 9)), inner("", 1), inner("a b", 1, 2, 3), filled(true, 440), filled(false, 440)} {
		form := formOf(n)
		count := int(form[1])
		for _, other := range []uint64{0, 1, 2, 3, 4, 100, 127, 128, 447, 448, 1 << 20, 1 << 31, 1 << 32, 1 << 40, 1<<40 + 1, 1 << 62, 1 << 63, math.MaxUint64} {
			if other != uint64(count) {
				b := binary.AppendUvarint([]byte{form[0]}, other)
				wantNone(t, append(b, form[2:]...))
			}
		}
	}
	for _, length := range []uint64{1, 2, 96, 97, 1 << 31, 1 << 32, 1 << 40, 1 << 62, 1 << 63, math.MaxUint64} {
		b := binary.AppendUvarint(nil, length)
		wantNone(t, append([]byte{1, 1}, b...))
		wantNone(t, append([]byte{1, 1, 1, 97, 0}, b...))
		wantNone(t, append([]byte{2, 1}, b...))
	}
}

// P8.1, P1: all short bytes of some, held against the model.
func TestParseOfAllShort(t *testing.T) {
	signs := []byte{0, 1, 2, 65, 127, 128}
	var grow func(b []byte, more int)
	grow = func(b []byte, more int) {
		wantParse(t, b)
		for _, c := range signs {
			if more > 0 {
				grow(append(b[:len(b):len(b)], c), more-1)
			}
		}
	}
	grow(nil, 5)
	for _, ahead := range []string{"\x01\x01\x01", "\x01\x02\x01A", "\x02\x01\x01", "\x02\x02\x01A", "\x01\x01\x01A\x01"} {
		grow([]byte(ahead), 6)
	}
}

// P8.1, P1: forms in which a byte or more are others, are left out, or put between.
func TestParseOfSpoiltForms(t *testing.T) {
	r := rand.New(rand.NewSource(81))
	for _, n := range may() {
		form := formOf(n)
		if len(form) > api.PageLen {
			continue
		}
		for range 100 {
			b := bytes.Clone(form)
			for range 1 + r.Intn(2) {
				at := r.Intn(len(b))
				switch r.Intn(3) {
				case 0:
					b[at] = byte(r.Intn(256))
				case 1:
					b[at] ^= 1 << r.Intn(8)
				case 2:
					b = append(b[:at], b[at+r.Intn(2):]...)
				}
				if len(b) == 0 {
					break
				}
			}
			wantParse(t, b)
		}
	}
	for _, n := range []api.Node{leaf(here("a", "v"), over("b", 500, 9), here("bb", "")), inner("a bb c", 1, 300, 3, 4)} {
		form := formOf(n)
		for at := range form {
			for c := range 256 {
				b := bytes.Clone(form)
				b[at] = byte(c)
				wantParse(t, b)
			}
		}
	}
}
