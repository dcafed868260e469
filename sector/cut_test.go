package sector

import (
	"bytes"
	"testing"

	"ramble/api"
)

// P5.2: how long the pieces are.
func TestCut(t *testing.T) {
	for _, c := range []struct {
		length int
		want   []int
	}{
		{0, nil},
		{1, []int{1}},
		{api.MaxPay - 1, []int{111}},
		{api.MaxPay, []int{112}},
		{api.MaxPay + 1, []int{112, 1}},
		{2*api.MaxPay - 1, []int{112, 111}},
		{2 * api.MaxPay, []int{112, 112}},
		{2*api.MaxPay + 1, []int{112, 112, 1}},
		{300, []int{112, 112, 76}},
		{5 * api.MaxPay, []int{112, 112, 112, 112, 112}},
	} {
		b := pay(c.length, 1)
		l := Cut(b)
		if len(l) != len(c.want) {
			t.Fatalf("Cut of %d bytes: %d pieces", c.length, len(l))
		}
		for i, piece := range l {
			if len(piece) != c.want[i] || !bytes.Equal(piece, b[i*api.MaxPay:][:c.want[i]]) {
				t.Errorf("Cut of %d bytes: piece %d is %v", c.length, i, piece)
			}
		}
	}
	if Cut(nil) != nil || len(Cut([]byte{})) != 0 {
		t.Error("Cut of no bytes has pieces")
	}
}

// P5.2, R6: pieces one behind the other; those that are nil or empty count for nothing.
func TestJoin(t *testing.T) {
	for _, c := range []struct {
		pieces [][]byte
		want   string
	}{
		{nil, ""},
		{[][]byte{}, ""},
		{[][]byte{nil}, ""},
		{[][]byte{{}, nil, {}}, ""},
		{[][]byte{[]byte("a")}, "a"},
		{[][]byte{nil, []byte("a"), {}, []byte("bc"), nil}, "abc"},
		{[][]byte{[]byte("bc"), []byte("a"), []byte("bc")}, "bcabc"},
		{[][]byte{{0}, {0, 0}}, "\x00\x00\x00"},
		{[][]byte{make([]byte, 500), []byte("x")}, string(make([]byte, 500)) + "x"},
	} {
		if got := Join(c.pieces...); string(got) != c.want {
			t.Errorf("Join(%v): %v", c.pieces, got)
		}
	}
	if got := Join(); len(got) != 0 {
		t.Errorf("Join of nothing: %v", got)
	}
}

// P5.5: Join of Cut is what was cut, at all lengths.
func TestJoinOfCut(t *testing.T) {
	for length := range 6*api.MaxPay + 2 {
		b := pay(length, byte(length))
		if got := Join(Cut(b)...); !bytes.Equal(got, b) {
			t.Fatalf("%d bytes: %v", length, got)
		}
	}
	b := pay(1<<20+1, 3)
	if !bytes.Equal(Join(Cut(b)...), b) {
		t.Error("many bytes")
	}
}

// P5.2: each piece is one that a frame can have.
func TestCutFitsFrames(t *testing.T) {
	var back [][]byte
	b := pay(1000, 6)
	for i, piece := range Cut(b) {
		f, e := Open(sealed(t, api.Frame{Kind: 2, N: int64(i), Pay: piece}))
		if e != api.OK {
			t.Fatalf("Open of the piece %d: %d", i, e)
		}
		back = append(back, f.Pay)
	}
	if !bytes.Equal(Join(back...), b) {
		t.Error("the pieces of frames are not what was cut")
	}
}

// R3: Cut leaves its bytes, and none of its pieces is theirs or another piece's, nor any of the room behind it.
func TestCutSharesNothing(t *testing.T) {
	b := pay(300, 2)
	before := bytes.Clone(b)
	l := Cut(b[:250])
	clear(b)
	if !bytes.Equal(Join(l...), before[:250]) {
		t.Fatal("the pieces are those of the bytes that were cut")
	}
	copy(b, before)
	for i, piece := range l {
		clear(piece)
		_ = append(piece[:0], make([]byte, cap(piece))...)
		if !bytes.Equal(b, before) {
			t.Fatalf("the piece %d is of the bytes that were cut", i)
		}
		for j := i + 1; j < len(l); j++ {
			if !bytes.Equal(l[j], before[j*api.MaxPay:min(250, (j+1)*api.MaxPay)]) {
				t.Fatalf("the pieces %d and %d share", i, j)
			}
		}
	}
}

// R3: Join leaves its pieces, and what lies behind them, and its answer is nobody else's.
func TestJoinSharesNothing(t *testing.T) {
	room := []byte("abcdefgh")
	for _, pieces := range [][][]byte{{room[:3]}, {room[:3], nil}, {nil, room[:3]}, {room[:2], room[2:3]}, {room[:0], room[:1], room[1:3]}} {
		got := Join(pieces...)
		if string(got) != "abc" || string(room) != "abcdefgh" {
			t.Fatalf("Join(%q): %q, and the room is %q", pieces, got, room)
		}
		clear(got)
		_ = append(got[:0], make([]byte, cap(got))...)
		if string(room) != "abcdefgh" || string(Join(pieces...)) != "abc" {
			t.Fatalf("Join(%q) shares", pieces)
		}
	}
	one := [][]byte{[]byte("abc")}
	got := Join(one...)
	one[0][0] = 'z'
	if string(got) != "abc" {
		t.Errorf("Join keeps its piece: %q", got)
	}
}
