package sector

import (
	"bytes"
	"hash/crc32"
	"math/rand"
	"testing"
)

// byRule is the sum bit by bit, as the chapter tells it.
func byRule(b []byte) uint32 {
	rest := uint32(0xffffffff)
	for _, c := range b {
		for bit := range 8 {
			other := uint32(c>>bit)&1 != rest&1
			rest >>= 1
			if other {
				rest ^= 0xedb88320
			}
		}
	}
	return ^rest
}

// P5.1: sums, written out.
func TestSum(t *testing.T) {
	for _, c := range []struct {
		b    string
		want uint32
	}{
		{"", 0},
		{"\x00", 0xd202ef8d},
		{"\x01", 0xa505df1b},
		{"\x80", 0x3fba6cad},
		{"\xff", 0xff000000},
		{"a", 0xe8b7be43},
		{"abc", 0x352441c2},
		{"123456789", 0xcbf43926},
		{"\x00\x00\x00\x00", 0x2144df1c},
		{"\xff\xff\xff\xff", 0xffffffff},
		{"The quick brown fox jumps over the lazy dog", 0x414fa339},
	} {
		if got := Sum([]byte(c.b)); got != c.want {
			t.Errorf("Sum(%q): got %08x, want %08x", c.b, got, c.want)
		}
	}
	if Sum(nil) != Sum([]byte{}) || Sum(nil) != 0 {
		t.Errorf("Sum of nothing: %x, %x", Sum(nil), Sum([]byte{}))
	}
}

// wantSum holds Sum against the chapter's rule and against the library's.
func wantSum(t *testing.T, b []byte) {
	t.Helper()
	got := Sum(b)
	if got != byRule(b) || got != crc32.ChecksumIEEE(b) {
		t.Fatalf("Sum(%v): got %08x, want %08x", b, got, byRule(b))
	}
}

// P5.1: sums of all bytes, of all pairs, and of bytes of many lengths, by the chapter's rule.
func TestSumByRule(t *testing.T) {
	for a := range 256 {
		wantSum(t, []byte{byte(a)})
		for b := range 256 {
			wantSum(t, []byte{byte(a), byte(b)})
		}
	}
	r := rand.New(rand.NewSource(1))
	for length := range 400 {
		wantSum(t, make([]byte, length))
		wantSum(t, bytes.Repeat([]byte{255}, length))
		b := make([]byte, length)
		r.Read(b)
		wantSum(t, b)
	}
	long := make([]byte, 1<<20)
	r.Read(long)
	wantSum(t, long)
}

// R3, R4: Sum leaves the bytes, and answers the same again.
func TestSumLeavesBytes(t *testing.T) {
	b := pay(300, 3)
	before := bytes.Clone(b)
	if Sum(b) != Sum(b) || Sum(b) != Sum(before) || !bytes.Equal(b, before) {
		t.Error("Sum changed its bytes, or its answer")
	}
}
