package wal

import (
	"math/rand"
	"testing"

	"ramble/api"
)

// P6.1: how many frames commits take, at the edges of a frame and of a number's bytes.
func TestFrames(t *testing.T) {
	for _, c := range []struct {
		what    string
		records [][]byte
		want    int
	}{
		{"no records", nil, 1},
		{"an empty list", [][]byte{}, 1},
		{"one empty record", [][]byte{{}}, 1},
		{"one nil record", [][]byte{nil}, 1},
		{"one byte less than a frame", [][]byte{rec(109, 1)}, 1},
		{"one frame", [][]byte{rec(110, 1)}, 1},
		{"one frame and one byte", [][]byte{rec(111, 1)}, 2},
		{"one frame of two records", [][]byte{rec(50, 1), rec(59, 1)}, 1},
		{"two records, one byte more", [][]byte{rec(50, 1), rec(60, 1)}, 2},
		{"a length of one byte at most", [][]byte{rec(127, 1)}, 2},
		{"a length of two bytes", [][]byte{rec(128, 1)}, 2},
		{"two frames", [][]byte{rec(221, 1)}, 2},
		{"two frames and one byte", [][]byte{rec(222, 1)}, 3},
		{"three frames", [][]byte{rec(333, 1)}, 3},
		{"three frames and one byte", [][]byte{rec(334, 1)}, 4},
		{"a length of two bytes at most", [][]byte{rec(16383, 1)}, 147},
		{"a length of three bytes, in 147 frames", [][]byte{rec(16460, 1)}, 147},
		{"a length of three bytes, and one more", [][]byte{rec(16461, 1)}, 148},
		{"empty records in one frame", blanks(111), 1},
		{"one empty record more", blanks(112), 2},
		{"a count of one byte at most", blanks(127), 2},
		{"a count of two bytes", blanks(128), 2},
		{"empty records in two frames", blanks(222), 2},
		{"one empty record more than in two", blanks(223), 3},
		{"all that a log may have", [][]byte{rec(api.MaxSlots*112-4, 1)}, api.MaxSlots},
		{"one byte more than a log may have", [][]byte{rec(api.MaxSlots*112-3, 1)}, api.MaxSlots + 1},
	} {
		if got := Frames(c.records...); got != c.want {
			t.Errorf("Frames of %s: got %d, want %d", c.what, got, c.want)
		}
	}
}

// P6.1: Frames counts the pieces of the bytes that a commit has, whatever its records are.
func TestFramesByRule(t *testing.T) {
	r := rand.New(rand.NewSource(1))
	for range 3000 {
		records := make([][]byte, r.Intn(1<<r.Intn(10)))
		for i := range records {
			records[i] = rec(r.Intn(1<<r.Intn(10)), byte(i))
		}
		pieces := len(framed(1, 0, laid(records...)))
		if got := Frames(records...); got != pieces {
			t.Fatalf("Frames of %d records with %d bytes in all: got %d, want %d", len(records), len(laid(records...)), got, pieces)
		}
	}
}

// P6.1, R7: records that are one and the same may come to more bytes than there is memory; their frames are counted all the same.
func TestFramesOfMuch(t *testing.T) {
	records := make([][]byte, 1<<14)
	one := rec(1<<22, 1)
	for i := range records {
		records[i] = one
	}
	length := 3 + len(records)*(4+1<<22)
	if got, want := Frames(records...), (length+111)/112; got != want {
		t.Errorf("got %d, want %d", got, want)
	}
	d := fresh(t, 5)
	l := format(t, d, 3, "")
	want(t, "Append", l.Append(records...), api.ErrFull)
	wantLog(t, "behind ErrFull", l, 3, 0, 1, false)
	wantFlushed(t, "behind ErrFull", d, 3)
}

// P6.1, P6.3: Append takes as many slots as Frames says, each with a frame.
func TestFramesAreTaken(t *testing.T) {
	for length := range 700 {
		d := fresh(t, 20)
		l := format(t, d, 18, "")
		record := rec(length, 3)
		want(t, "Append", l.Append(record), api.OK)
		if l.Used() != Frames(record) {
			t.Fatalf("%d bytes: used %d, Frames %d", length, l.Used(), Frames(record))
		}
		wantSectors(t, "the frames", d, 2, framed(1, 0, laid(record))...)
		wantSectors(t, "behind them", d, 2+l.Used(), api.Sector{})
	}
}
