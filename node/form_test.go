package node

import (
	"bytes"
	"math"
	"strings"
	"testing"

	"ramble/api"
)

// wantBytes holds Size and Bytes against a form.
func wantBytes(t *testing.T, n api.Node, form []byte) {
	t.Helper()
	if got := size(t, n); got != len(form) {
		t.Errorf("Size(%.300s): %d, want %d", tell(n), got, len(form))
	}
	b, e := bytesOf(t, n)
	if e != api.OK || !bytes.Equal(b, form) {
		t.Errorf("Bytes(%.300s): %v, %d, want %v", tell(n), b, e, form)
	}
}

func wantNoBytes(t *testing.T, n api.Node, e api.Errno) {
	t.Helper()
	if b, got := bytesOf(t, n); got != e || b != nil {
		t.Errorf("Bytes(%.300s): %v, %d, want %d", tell(n), b, got, e)
	}
}

// P8.1: forms as they are written.
func TestBytesAsWritten(t *testing.T) {
	for form, n := range map[string]api.Node{
		"\x01\x00":                                                  leaf(),
		"\x01\x01\x01a\x00\x01\x07":                                 leaf(here("a", "\x07")),
		"\x01\x01\x01a\x00\x00":                                     leaf(here("a", "")),
		"\x01\x01\x01a\x01\x41\x01":                                 leaf(over("a", 65, 1)),
		"\x01\x02\x01a\x00\x02vw\x02ab\x01\xf4\x03\x07":             leaf(here("a", "vw"), over("ab", 500, 7)),
		"\x01\x01\x02\x00\xff\x01\x80\x80\x80\x80\x80\x20\xff\x0f":  leaf(over("\x00\xff", 1<<40, 2047)),
		"\x01\x01\x60" + long("k", 96) + "\x00\x40" + long("v", 64): leaf(here(long("k", 96), long("v", 64))),
		"\x01\x02\x01a\x01\x7f\x7f\x01b\x01\x80\x01\x80\x01":        leaf(over("a", 127, 127), over("b", 128, 128)),
		"\x02\x00\x01":                                              inner("", 1),
		"\x02\x00\xff\x0f":                                          inner("", 2047),
		"\x02\x01\x01m\x03\x04":                                     inner("m", 3, 4),
		"\x02\x02\x01a\x02bc\x7f\x80\x01\x01":                       inner("a bc", 127, 128, 1),
		"\x02\x01\x60" + long("k", 96) + "\xac\x02\x05":             inner(long("k", 96), 300, 5),
	} {
		wantBytes(t, n, []byte(form))
	}
}

// P8.1: Size and Bytes of nodes that may be, be there room or not.
func TestBytesOfMay(t *testing.T) {
	for _, n := range may() {
		form := formOf(n)
		if len(form) <= api.PageLen {
			wantBytes(t, n, form)
			continue
		}
		if got := size(t, n); got != len(form) {
			t.Errorf("Size(%.300s): %d, want %d", tell(n), got, len(form))
		}
		wantNoBytes(t, n, api.ErrLong)
	}
}

// P8.1: as many bytes as a page has, one fewer, and one more.
func TestBytesOfAPage(t *testing.T) {
	for _, isLeaf := range []bool{true, false} {
		for length := 400; length <= 500; length++ {
			n := filled(isLeaf, length)
			if got := size(t, n); got != length || !mayBe(n) {
				t.Fatalf("Size(%s): %d, want %d", tell(n), got, length)
			}
			if length <= 448 {
				wantBytes(t, n, formOf(n))
			} else {
				wantNoBytes(t, n, api.ErrLong)
			}
		}
	}
}

// P8.1: how many there are takes a byte up to 127, and two from there on.
func TestSizeOfMany(t *testing.T) {
	for _, count := range []int{0, 1, 126, 127, 128, 129, 300, 20000} {
		head := 2
		if count > 127 {
			head = 3
		}
		if count > 16383 {
			head = 4
		}
		n := leaf()
		m := inner("", 1)
		for range count {
			n.Cells = append(n.Cells, api.Cell{Key: []byte("a")})
			m.Keys = append(m.Keys, []byte("a"))
		}
		if got := Size(n); got != head+4*count {
			t.Errorf("Size of %d cells: %d", count, got)
		}
		if got := Size(m); got != head+2*count+1 {
			t.Errorf("Size of %d keys: %d", count, got)
		}
	}
}

// P8.1: Size of nodes that may not be: what the form does not say does not count.
func TestSizeOfMayNot(t *testing.T) {
	for _, c := range []struct {
		n    api.Node
		size int
	}{
		{api.Node{}, 2},
		{inner("a"), 4},
		{inner("a", 1, 2, 300), 8},
		{inner("", 0, 0), 4},
		{inner("", -1), 12},
		{inner("", math.MaxInt, math.MinInt), 21},
		{api.Node{Cells: []api.Cell{here("a", "v")}, Kids: []int{1}}, 3},
		{api.Node{Leaf: true, Keys: [][]byte{[]byte("a")}, Kids: []int{1, 2}}, 2},
		{api.Node{Keys: [][]byte{nil, nil}}, 4},
		{leaf(api.Cell{}), 5},
		{leaf(over("a", 500, 0)), 6},
		{leaf(over("a", 0, 2048)), 8},
		{leaf(over("a", 1<<40+1, 1)), 12},
		{leaf(over("a", -1, -1)), 25},
		{leaf(api.Cell{Key: []byte("a"), Val: []byte("vvvv"), Over: 1, Len: 65}), 7},
		{leaf(here("b", ""), here("a", "")), 10},
		{leaf(here(strings.Repeat("k", 128), strings.Repeat("v", 16384))), 2 + 130 + 1 + 16387},
	} {
		if got := size(t, c.n); got != c.size || len(formOf(c.n)) != c.size {
			t.Errorf("Size(%.300s): %d, want %d", tell(c.n), got, c.size)
		}
		wantNoBytes(t, c.n, api.ErrNode)
	}
	for _, n := range mayNot() {
		if got := size(t, n); got != len(formOf(n)) {
			t.Errorf("Size(%.300s): %d, want %d", tell(n), got, len(formOf(n)))
		}
	}
}

// P8.1, R1: Check's error comes ahead of ErrLong, of one fault at any place in a node of any length.
func TestBytesOfMayNot(t *testing.T) {
	for _, n := range mayNot() {
		wantNoBytes(t, n, api.ErrNode)
	}
	for _, length := range []int{447, 448, 449, 2000} {
		n := filled(true, length)
		n.Cells[len(n.Cells)-1].Over = -1
		wantNoBytes(t, n, api.ErrNode)
		n = filled(true, length)
		n.Keys = [][]byte{[]byte("a")}
		wantNoBytes(t, n, api.ErrNode)
		n = filled(false, length)
		n.Kids[len(n.Kids)-1] = 0
		wantNoBytes(t, n, api.ErrNode)
	}
}
