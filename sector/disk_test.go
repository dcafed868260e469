package sector

import (
	"bytes"
	"math"
	"testing"

	"ramble/api"
	"ramble/disk"
)

// outside are numbers of which none is a sector of a disk of so many.
func outside(sectors int) []int {
	return []int{-1, sectors, sectors + 1, 1 << 32, -1 << 32, math.MinInt, math.MaxInt}
}

// P5.2: what is put is got, flushed or not, and stands in its sector alone, sealed.
func TestPutAndGet(t *testing.T) {
	all := frames()
	d := fresh(t, len(all))
	for at, f := range all {
		put(t, d, at, f)
		wantState(t, d, int64(at+1), at+1)
	}
	for range 2 {
		for at, f := range all {
			wantGet(t, d, at, f.Kind, f.N, f.Pay, api.OK)
			if s, e := d.Read(at); e != api.OK || s != sealed(t, f) {
				t.Fatalf("Read(%d): %v, %d", at, s, e)
			}
		}
		want(t, "Flush", d.Flush(), api.OK)
	}
	wantState(t, d, int64(len(all)+2), 0)
}

// P5.2: put again, the later one stands there; the neighbours are left.
func TestPutAgain(t *testing.T) {
	d := fresh(t, 3)
	put(t, d, 1, api.Frame{Kind: 1, N: 1, Pay: pay(api.MaxPay, 1)})
	put(t, d, 1, api.Frame{Kind: 2, N: 2, Pay: []byte("x")})
	wantGet(t, d, 1, 2, 2, []byte("x"), api.OK)
	wantGet(t, d, 1, 1, 1, nil, api.ErrFrame)
	wantGet(t, d, 0, 2, 2, nil, api.ErrFrame)
	wantGet(t, d, 2, 2, 2, nil, api.ErrFrame)
}

// P5.2: a frame of another Kind or another N is none, also if it is one by its lowest bits.
func TestGetAnother(t *testing.T) {
	d := fresh(t, 2)
	put(t, d, 0, api.Frame{Kind: 2, N: 1 << 40, Pay: []byte("hello")})
	for _, kind := range []int{0, 1, 3, -1, -2, 255, 256, 258, -254, 1<<32 + 2, math.MinInt, math.MaxInt} {
		wantGet(t, d, 0, kind, 1<<40, nil, api.ErrFrame)
		wantGet(t, d, 0, kind, 1, nil, api.ErrFrame)
	}
	for _, n := range []int64{0, 1, -1, 1<<40 - 1, 1<<40 + 1, -1 << 40, 1<<40 - 1<<63, math.MinInt64, math.MaxInt64} {
		wantGet(t, d, 0, 2, n, nil, api.ErrFrame)
	}
	wantGet(t, d, 0, 2, 1<<40, []byte("hello"), api.OK)
	wantGet(t, d, 1, 0, 0, nil, api.ErrFrame)
}

// P5.2: sectors that no frame are, though they say the Kind and the N that are asked for.
func TestGetNoFrame(t *testing.T) {
	d := fresh(t, 4)
	longer := written(2, 5, pay(api.MaxPay, 1))
	longer[1]++
	unsummed := written(2, 5, []byte("a"))
	unsummed[127] ^= 1
	for at, s := range []api.Sector{written(0, 5, nil), written(2, 1<<63, nil), summed(longer), unsummed} {
		want(t, "Write", d.Write(at, s), api.OK)
	}
	wantGet(t, d, 0, 0, 5, nil, api.ErrFrame)
	wantGet(t, d, 1, 2, math.MinInt64, nil, api.ErrFrame)
	wantGet(t, d, 2, 2, 5, nil, api.ErrFrame)
	wantGet(t, d, 3, 2, 5, nil, api.ErrFrame)
}

// P5.2: sectors that there are not; Seal's error is said ahead of the disk's, and a frame that is refused is no call.
func TestPlaces(t *testing.T) {
	f := api.Frame{Kind: 1, N: 1, Pay: []byte("a")}
	for _, sectors := range []int{1, 4, api.MaxSectors} {
		d := fresh(t, sectors)
		for _, at := range outside(sectors) {
			want(t, "Put", Put(d, at, f), api.ErrPlace)
			want(t, "Put", Put(d, at, api.Frame{}), api.ErrArg)
			wantGet(t, d, at, 1, 1, nil, api.ErrPlace)
			wantGet(t, d, at, 0, -1, nil, api.ErrPlace)
		}
		wantState(t, d, 0, 0)
		put(t, d, sectors-1, f)
		wantGet(t, d, sectors-1, 1, 1, f.Pay, api.OK)
	}
}

// P5.2: a frame that may not be leaves the disk as it is, its fuse too.
func TestPutRefused(t *testing.T) {
	d := fresh(t, 2)
	f := api.Frame{Kind: 1, N: 1, Pay: []byte("a")}
	put(t, d, 0, f)
	want(t, "Flush", d.Flush(), api.OK)
	want(t, "SetFuse", d.SetFuse(2), api.OK)
	for _, bad := range badFrames() {
		want(t, "Put", Put(d, 0, bad), api.ErrArg)
	}
	wantState(t, d, 2, 0)
	wantGet(t, d, 0, 1, 1, f.Pay, api.OK)
	put(t, d, 1, f)
	want(t, "Put", Put(d, 1, f), api.ErrDown)
}

// P5.2: while the power is away nothing is put or got; Seal's error still comes first.
func TestPowerAway(t *testing.T) {
	f, g := api.Frame{Kind: 1, N: 1, Pay: []byte("old")}, api.Frame{Kind: 1, N: 1, Pay: []byte("new")}
	d := fresh(t, 2)
	put(t, d, 0, f)
	want(t, "Flush", d.Flush(), api.OK)
	want(t, "SetFuse", d.SetFuse(1), api.OK)
	for _, at := range outside(2) {
		want(t, "Put", Put(d, at, g), api.ErrPlace)
	}
	want(t, "Put", Put(d, 0, g), api.ErrDown)
	for _, at := range append(outside(2), 0, 1) {
		want(t, "Put", Put(d, at, g), api.ErrDown)
		want(t, "Put", Put(d, at, api.Frame{Kind: 256}), api.ErrArg)
		wantGet(t, d, at, 1, 1, nil, api.ErrDown)
		wantGet(t, d, at, 0, -1, nil, api.ErrDown)
	}
	want(t, "Start", d.Start(-1, true), api.OK)
	wantGet(t, d, 0, 1, 1, f.Pay, api.OK)
}

// P5.2: a torn sector is not got, whatever is asked for, until it is put again; what was lost is as it was.
func TestTorn(t *testing.T) {
	d := fresh(t, 3)
	old := api.Frame{Kind: 5, N: 5, Pay: []byte("old")}
	for at := range 3 {
		put(t, d, at, old)
	}
	want(t, "Flush", d.Flush(), api.OK)
	for at := range 3 {
		put(t, d, at, api.Frame{Kind: 6, N: 6, Pay: []byte("new")})
	}
	want(t, "Crash", d.Crash(1, true, true, false), api.OK)
	want(t, "Start", d.Start(0), api.OK)
	wantGet(t, d, 0, 6, 6, []byte("new"), api.OK)
	wantGet(t, d, 1, 6, 6, nil, api.ErrTorn)
	wantGet(t, d, 1, 5, 5, nil, api.ErrTorn)
	wantGet(t, d, 1, 0, -1, nil, api.ErrTorn)
	wantGet(t, d, 2, 5, 5, []byte("old"), api.OK)
	wantGet(t, d, 2, 6, 6, nil, api.ErrFrame)
	put(t, d, 1, old)
	wantGet(t, d, 1, 5, 5, []byte("old"), api.OK)
}

// R5: a disk that no call made; Seal's error is said first.
func TestMade(t *testing.T) {
	for _, d := range []*disk.Disk{nil, {}} {
		for _, at := range append(outside(1), 0) {
			want(t, "Put", Put(d, at, api.Frame{Kind: 1}), api.ErrMade)
			want(t, "Put", Put(d, at, api.Frame{Kind: 0}), api.ErrArg)
			want(t, "Put", Put(d, at, api.Frame{Kind: 1, N: -1}), api.ErrArg)
			want(t, "Put", Put(d, at, api.Frame{Kind: 1, Pay: make([]byte, 113)}), api.ErrArg)
			wantGet(t, d, at, 1, 0, nil, api.ErrMade)
			wantGet(t, d, at, 0, -1, nil, api.ErrMade)
		}
	}
}

// R3: Put keeps and changes no Pay, and what Get answers may be changed; Get is no call.
func TestDiskSharesNothing(t *testing.T) {
	d := fresh(t, 2)
	room := pay(api.MaxPay, 8)
	before := bytes.Clone(room)
	put(t, d, 0, api.Frame{Kind: 1, N: 1, Pay: room[:30]})
	if !bytes.Equal(room, before) {
		t.Fatal("Put changed Pay, or what lies behind it")
	}
	clear(room)
	wantState(t, d, 1, 1)
	for range 3 {
		got, e := Get(d, 0, 1, 1)
		if e != api.OK || !bytes.Equal(got, before[:30]) {
			t.Fatalf("Get: %v, %d", got, e)
		}
		clear(got)
		_ = append(got[:0], pay(cap(got), 9)...)
	}
	wantState(t, d, 1, 1)
	want(t, "Flush", d.Flush(), api.OK)
	wantGet(t, d, 0, 1, 1, before[:30], api.OK)
	wantState(t, d, 2, 0)
}
