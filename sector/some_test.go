package sector

import (
	"bytes"
	"encoding/binary"
	"hash/crc32"
	"math"
	"math/rand"
	"testing"

	"ramble/api"
	"ramble/disk"
)

// pay is so many bytes, none of them 0, that differ by seed.
func pay(length int, seed byte) []byte {
	b := make([]byte, length)
	for i := range b {
		b[i] = byte(i)*29 + seed | 1
	}
	return b
}

// summed is s with the right sum, whatever else stands in it.
func summed(s api.Sector) api.Sector {
	binary.LittleEndian.PutUint32(s[124:], crc32.ChecksumIEEE(s[:124]))
	return s
}

// written is a sector as the chapter writes a frame, reckoned by the library's means.
func written(kind byte, n uint64, pay []byte) api.Sector {
	s := api.Sector{kind, byte(len(pay))}
	binary.BigEndian.PutUint64(s[2:10], n)
	copy(s[10:122], pay)
	return summed(s)
}

// frames are frames that may be, at the edges and between them.
func frames() []api.Frame {
	var l []api.Frame
	for _, kind := range []int{1, 2, 127, 128, 254, 255} {
		for _, n := range []int64{0, 1, 255, 256, 1 << 32, 0x0102030405060708, math.MaxInt64 - 1, math.MaxInt64} {
			for _, length := range []int{0, 1, 2, 56, api.MaxPay - 1, api.MaxPay} {
				l = append(l, api.Frame{Kind: kind, N: n, Pay: pay(length, byte(kind))})
			}
		}
	}
	r := rand.New(rand.NewSource(5))
	for range 300 {
		b := make([]byte, r.Intn(api.MaxPay+1))
		r.Read(b)
		l = append(l, api.Frame{Kind: 1 + r.Intn(255), N: r.Int63() >> r.Intn(63), Pay: b})
	}
	return append(l,
		api.Frame{Kind: 1},
		api.Frame{Kind: 1, Pay: make([]byte, 5)},
		api.Frame{Kind: 255, N: math.MaxInt64, Pay: make([]byte, api.MaxPay)},
		api.Frame{Kind: 255, N: math.MaxInt64, Pay: bytes.Repeat([]byte{255}, api.MaxPay)},
	)
}

// badFrames are frames that may not be, by one fault or by several.
func badFrames() []api.Frame {
	good := pay(5, 1)
	var l []api.Frame
	for _, kind := range []int{-1, 0, 256, 257, 512, -255, -256, 1 << 32, 1<<32 + 1, math.MinInt, math.MaxInt} {
		l = append(l, api.Frame{Kind: kind, N: 1, Pay: good}, api.Frame{Kind: kind}, api.Frame{Kind: kind, N: -1, Pay: pay(200, 1)})
	}
	for _, n := range []int64{-1, -2, -1 << 32, math.MinInt64, math.MinInt64 + 1} {
		l = append(l, api.Frame{Kind: 1, N: n, Pay: good}, api.Frame{Kind: 255, N: n})
	}
	for _, length := range []int{api.MaxPay + 1, api.MaxPay + 2, 122, 128, 255, 256, 257, 256 + api.MaxPay, 1 << 16} {
		l = append(l, api.Frame{Kind: 1, N: 1, Pay: make([]byte, length)}, api.Frame{Kind: 1, N: -1, Pay: pay(length, 1)})
	}
	return l
}

func same(f, g api.Frame) bool {
	return f.Kind == g.Kind && f.N == g.N && bytes.Equal(f.Pay, g.Pay)
}

func isZero(f api.Frame) bool { return f.Kind == 0 && f.N == 0 && f.Pay == nil }

// sealed is the sector of a frame that may be.
func sealed(t *testing.T, f api.Frame) api.Sector {
	t.Helper()
	s, e := Seal(f)
	if e != api.OK {
		t.Fatalf("Seal(%v): %d", f, e)
	}
	return s
}

// wantOpen holds what Open answers against a frame.
func wantOpen(t *testing.T, s api.Sector, f api.Frame) {
	t.Helper()
	if got, e := Open(s); e != api.OK || !same(got, f) {
		t.Fatalf("Open(%v): got %v, %d; want %v", s, got, e, f)
	}
}

// wantNoFrame holds that s is no frame, and that nothing is answered beside the error.
func wantNoFrame(t *testing.T, what string, s api.Sector) {
	t.Helper()
	if f, e := Open(s); e != api.ErrFrame || !isZero(f) {
		t.Fatalf("Open of %s, %v: got %v, %d", what, s, f, e)
	}
}

func want(t *testing.T, what string, got, e api.Errno) {
	t.Helper()
	if got != e {
		t.Fatalf("%s: got %d, want %d", what, got, e)
	}
}

// wantGet holds what Get answers against a Pay; with an error that must be nil.
func wantGet(t *testing.T, d *disk.Disk, at, kind int, n int64, pay []byte, e api.Errno) {
	t.Helper()
	got, err := Get(d, at, kind, n)
	if err != e || !bytes.Equal(got, pay) || e != api.OK && got != nil {
		t.Fatalf("Get(%d, %d, %d): got %v, %d; want %v, %d", at, kind, n, got, err, pay, e)
	}
}

// wantState holds how often a disk was called and what of it is dirty.
func wantState(t *testing.T, d *disk.Disk, calls int64, dirty int) {
	t.Helper()
	if d.Calls() != calls || len(d.Dirty()) != dirty {
		t.Fatalf("%d calls, dirty %v; want %d and %d", d.Calls(), d.Dirty(), calls, dirty)
	}
}

// fresh is a disk of so many sectors of zeros.
func fresh(t *testing.T, sectors int) *disk.Disk {
	t.Helper()
	d, e := disk.New(sectors)
	want(t, "New", e, api.OK)
	return d
}

// put is Put of a frame that is taken.
func put(t *testing.T, d *disk.Disk, at int, f api.Frame) {
	t.Helper()
	want(t, "Put", Put(d, at, f), api.OK)
}
