package sector

import (
	"math/rand"
	"testing"

	"ramble/api"
)

// turn is s with some of 32 bits turned: bit i of those stands at the place at + i, where a place 8k + j is the bit 2^j of the byte k; those outside count for nothing.
func turn(s api.Sector, at int, which uint32) api.Sector {
	for i := range 32 {
		place := at + i
		if which>>i&1 == 1 && place >= 0 && place < 8*api.SectorLen {
			s[place/8] ^= 1 << (place % 8)
		}
	}
	return s
}

// wantDamage holds that s is no frame when these bits are turned, and a frame if they all lie outside.
func wantDamage(t *testing.T, s api.Sector, at int, which uint32) {
	t.Helper()
	hurt := turn(s, at, which)
	f, e := Open(hurt)
	if hurt == s {
		want(t, "Open of what is as it was", e, api.OK)
	} else if e != api.ErrFrame || !isZero(f) {
		t.Fatalf("bits %032b at %d turned: %v, %d", which, at, f, e)
	}
}

// harmed are sectors of few and of many bits, that damage is done to.
func harmed(t *testing.T) []api.Sector {
	t.Helper()
	return []api.Sector{
		sealed(t, api.Frame{Kind: 1}),
		sealed(t, api.Frame{Kind: 3, N: 65536, Pay: []byte("abc")}),
		sealed(t, api.Frame{Kind: 255, N: 1<<63 - 1, Pay: pay(api.MaxPay, 77)}),
		sealed(t, api.Frame{Kind: 2, N: 1 << 40, Pay: make([]byte, api.MaxPay-1)}),
	}
}

// P5.4: one bit, and each two within 32, at each place, the sector's ends too.
func TestDamageOfTwoBits(t *testing.T) {
	for _, s := range harmed(t) {
		for at := range 8 * api.SectorLen {
			for second := range 32 {
				wantDamage(t, s, at, 1|1<<second)
			}
		}
	}
}

// shapes are bits among 32 that are mostly taken together.
func shapes() []uint32 {
	l := []uint32{0xedb88320, 0x04c11db7, 0xdb710641, 0x82608edb, 0xaaaaaaaa, 0x55555555, 0x80000001, 0x01020408, 0xff0000ff}
	for length := 1; length <= 32; length++ {
		l = append(l, uint32(1<<length-1), uint32(1<<length-1)<<(32-length))
	}
	return l
}

// P5.4: bits within 32, at each place and across both ends: whole runs of them, the rule's own number, and any.
func TestDamage(t *testing.T) {
	r := rand.New(rand.NewSource(3))
	for _, s := range harmed(t) {
		for at := -31; at < 8*api.SectorLen; at++ {
			for _, which := range shapes() {
				wantDamage(t, s, at, which)
			}
			for range 20 {
				wantDamage(t, s, at, r.Uint32()&r.Uint32()|1)
				wantDamage(t, s, at, r.Uint32()|1<<31)
			}
		}
	}
}

// P5.4: all damage of one byte and, of some, of two and four in a row, whatever then stands there.
func TestDamageOfBytes(t *testing.T) {
	r := rand.New(rand.NewSource(4))
	for _, s := range harmed(t) {
		for k := range api.SectorLen {
			for x := 1; x < 256; x++ {
				wantDamage(t, s, 8*k, uint32(x))
			}
			for range 100 {
				wantDamage(t, s, 8*k, r.Uint32()&0xffff|1)
				wantDamage(t, s, 8*k, r.Uint32())
			}
		}
	}
}

// P5.4: the same by bursts of a disk, which Get finds; turned back, all is as it was.
func TestDamageOnDisk(t *testing.T) {
	r := rand.New(rand.NewSource(5))
	d := fresh(t, 3)
	f := api.Frame{Kind: 9, N: 1 << 50, Pay: pay(100, 5)}
	for at := range 3 {
		put(t, d, at, f)
	}
	want(t, "Flush", d.Flush(), api.OK)
	for at := range 8 * api.SectorLen {
		for _, which := range []uint32{1, 0xffffffff, r.Uint32() | 1} {
			want(t, "Burst", d.Burst(1, at, which), api.OK)
			wantGet(t, d, 0, 9, 1<<50, f.Pay, api.OK)
			wantGet(t, d, 1, 9, 1<<50, nil, api.ErrFrame)
			wantGet(t, d, 2, 9, 1<<50, f.Pay, api.OK)
			want(t, "Burst", d.Burst(1, at, which), api.OK)
			wantGet(t, d, 1, 9, 1<<50, f.Pay, api.OK)
		}
	}
}
