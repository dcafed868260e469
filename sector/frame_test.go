package sector

import (
	"bytes"
	"fmt"
	"math"
	"math/rand"
	"testing"

	"ramble/api"
)

// P5.1: a sector, written out.
func TestSealAsWritten(t *testing.T) {
	s := sealed(t, api.Frame{Kind: 2, N: 0x0102030405060708, Pay: []byte("hello")})
	head := []byte{2, 5, 1, 2, 3, 4, 5, 6, 7, 8, 'h', 'e', 'l', 'l', 'o'}
	if !bytes.Equal(s[:15], head) {
		t.Errorf("begins %v, want %v", s[:15], head)
	}
	if !bytes.Equal(s[15:124], make([]byte, 109)) {
		t.Errorf("behind Pay %v", s[15:124])
	}
	sum := byRule(s[:124])
	if !bytes.Equal(s[124:], []byte{byte(sum), byte(sum >> 8), byte(sum >> 16), byte(sum >> 24)}) {
		t.Errorf("ends %v, the sum is %x", s[124:], sum)
	}
}

// P5.1, P5.3: each frame that may be is sealed as the chapter writes it, and opens as it was.
func TestSealAndOpen(t *testing.T) {
	for _, f := range frames() {
		s := sealed(t, f)
		if s != written(byte(f.Kind), uint64(f.N), f.Pay) {
			t.Fatalf("Seal(%v): %v", f, s)
		}
		wantOpen(t, s, f)
	}
}

// P5.1, P5.3: all kinds, all lengths, and each bit of N.
func TestSealAll(t *testing.T) {
	for kind := 1; kind <= 255; kind++ {
		f := api.Frame{Kind: kind, N: int64(kind), Pay: pay(kind%113, 1)}
		wantOpen(t, sealed(t, f), f)
	}
	for length := range api.MaxPay + 1 {
		for _, b := range [][]byte{pay(length, 1), make([]byte, length)} {
			f := api.Frame{Kind: 7, N: 7, Pay: b}
			wantOpen(t, sealed(t, f), f)
		}
	}
	for bit := range 63 {
		f := api.Frame{Kind: 7, N: 1 << bit, Pay: []byte{1}}
		wantOpen(t, sealed(t, f), f)
	}
}

// P5.1: what is no frame is refused, and no sector is answered; also where several faults come together.
func TestSealRefuses(t *testing.T) {
	for _, f := range badFrames() {
		if s, e := Seal(f); e != api.ErrArg || s != (api.Sector{}) {
			t.Errorf("Seal of Kind %d, N %d, %d bytes: %v, %d", f.Kind, f.N, len(f.Pay), s, e)
		}
	}
}

// P5.1, R6: nil and no bytes are the same Pay.
func TestSealOfNothing(t *testing.T) {
	if sealed(t, api.Frame{Kind: 1}) != sealed(t, api.Frame{Kind: 1, Pay: []byte{}}) {
		t.Error("nil and no bytes differ")
	}
}

// P5.1: sectors with the right sum that no frame is sealed as.
func TestOpenRefuses(t *testing.T) {
	wantNoFrame(t, "Kind 0", written(0, 1, []byte("a")))
	wantNoFrame(t, "Kind 0, without Pay", written(0, 0, nil))
	for _, n := range []uint64{1 << 63, math.MaxUint64, 1<<63 + 1, 0xff << 56} {
		wantNoFrame(t, "an N below 0", written(1, n, []byte("a")))
	}
	wantOpen(t, written(1, math.MaxInt64, []byte("a")), api.Frame{Kind: 1, N: math.MaxInt64, Pay: []byte("a")})
	for length := api.MaxPay + 1; length <= 255; length++ {
		for _, full := range [][]byte{nil, pay(api.MaxPay, 1)} {
			s := written(1, 1, full)
			s[1] = byte(length)
			wantNoFrame(t, "a length of more than MaxPay", summed(s))
		}
	}
}

// P5.1: behind Pay all is 0, up to the sum.
func TestOpenZerosBehind(t *testing.T) {
	for _, length := range []int{0, 1, 50, api.MaxPay - 1, api.MaxPay} {
		whole := written(3, 9, pay(length, 1))
		for at := 10 + length; at < 124; at++ {
			for _, b := range []byte{1, 128, 255} {
				s := whole
				s[at] = b
				wantNoFrame(t, fmt.Sprintf("%d bytes, and %d at %d", length, b, at), summed(s))
			}
		}
		wantOpen(t, whole, api.Frame{Kind: 3, N: 9, Pay: pay(length, 1)})
	}
	for length := range api.MaxPay {
		s := written(3, 9, pay(api.MaxPay, 1))
		s[1] = byte(length)
		wantNoFrame(t, "a length of too few", summed(s))
	}
}

// P5.1: the sum must be right: none of its bytes may be another one, and they stand the lowest first.
func TestOpenWrongSum(t *testing.T) {
	for _, f := range frames()[:40] {
		whole := sealed(t, f)
		for at := 124; at < 128; at++ {
			for x := 1; x < 256; x++ {
				s := whole
				s[at] ^= byte(x)
				wantNoFrame(t, "a wrong sum", s)
			}
		}
		turned, none, other := whole, whole, whole
		for i := range 4 {
			turned[124+i] = whole[127-i]
			none[124+i] = 0
			other[124+i] = ^whole[124+i]
		}
		wantNoFrame(t, "a sum the highest first", turned)
		wantNoFrame(t, "a sum of zeros", none)
		wantNoFrame(t, "a sum whose bits are turned", other)
	}
}

// P5.5: a sector of zeros is no frame, nor is one of any other byte alone.
func TestOpenOfOneByte(t *testing.T) {
	for b := range 256 {
		wantNoFrame(t, "one byte all over", api.Sector(bytes.Repeat([]byte{byte(b)}, api.SectorLen)))
	}
	wantNoFrame(t, "zeros with their sum", summed(api.Sector{}))
}

// mayOpen tells by the chapter's form whether a frame is sealed as s.
func mayOpen(s api.Sector) bool {
	if s[0] == 0 || s[1] > 112 || s[2] > 127 || s != summed(s) {
		return false
	}
	return bytes.Count(s[10+int(s[1]):124], []byte{0}) == 114-int(s[1])
}

// P5.1, P5.3: of any sector Open says the frame whose Seal it is, or ErrFrame; the sums are mostly right, so that the rest is looked at.
func TestOpenAny(t *testing.T) {
	r := rand.New(rand.NewSource(2))
	opened := 0
	for range 20000 {
		s := written(byte(r.Intn(256)), r.Uint64()>>r.Intn(3), pay(r.Intn(113), byte(r.Intn(256))))
		for range r.Intn(3) {
			s[r.Intn(128)] = byte(r.Intn(256))
		}
		if r.Intn(8) > 0 {
			s = summed(s)
		}
		if !mayOpen(s) {
			wantNoFrame(t, "any sector", s)
			continue
		}
		opened++
		f, e := Open(s)
		if e != api.OK || sealed(t, f) != s {
			t.Fatalf("Open(%v): %v, %d", s, f, e)
		}
	}
	if opened < 2000 || opened > 18000 {
		t.Errorf("%d of 20000 were frames", opened)
	}
}

// R3: Seal keeps and changes no Pay, and what Open answers is nobody else's.
func TestFrameSharesNothing(t *testing.T) {
	room := pay(api.MaxPay, 4)
	before := bytes.Clone(room)
	f := api.Frame{Kind: 4, N: 4, Pay: room[:20]}
	s := sealed(t, f)
	if !bytes.Equal(room, before) {
		t.Fatal("Seal changed Pay, or what lies behind it")
	}
	clear(room)
	first := api.Frame{Kind: 4, N: 4, Pay: before[:20]}
	wantOpen(t, s, first)
	got, _ := Open(s)
	other, _ := Open(s)
	clear(got.Pay)
	_ = append(got.Pay[:0], pay(cap(got.Pay), 9)...)
	if !same(other, first) {
		t.Errorf("two answers share: %v", other)
	}
	wantOpen(t, s, first)
}
