package num

import (
	"bytes"
	"math"
	"math/big"
	"sort"
	"strings"
	"testing"

	"ramble/api"
)

// wholeNumbers are numbers without a sign: around each bit, and of all lengths.
func wholeNumbers() []uint64 {
	l := []uint64{0, math.MaxUint64, math.MaxUint64 - 1, 300}
	for bit := range 64 {
		p := uint64(1) << bit
		l = append(l, p-1, p, p+1)
	}
	for _, n := range someNumbers(6, 3000) {
		l = append(l, uint64(n))
	}
	return l
}

// P1.3: Put's bytes, written out.
func TestPut(t *testing.T) {
	for _, c := range []struct {
		b    string
		u    uint64
		want string
	}{
		{"", 0, "\x00"},
		{"", 1, "\x01"},
		{"", 127, "\x7f"},
		{"", 128, "\x80\x01"},
		{"", 300, "\xac\x02"},
		{"\x09", 300, "\x09\xac\x02"},
		{"\x80\x80", 0, "\x80\x80\x00"},
		{"", 1<<14 - 1, "\xff\x7f"},
		{"", 1 << 14, "\x80\x80\x01"},
		{"", 1<<63 - 1, "\xff\xff\xff\xff\xff\xff\xff\xff\x7f"},
		{"", 1 << 63, "\x80\x80\x80\x80\x80\x80\x80\x80\x80\x01"},
		{"", math.MaxUint64, "\xff\xff\xff\xff\xff\xff\xff\xff\xff\x01"},
	} {
		if b := Put([]byte(c.b), c.u); string(b) != c.want {
			t.Errorf("Put(%q, %d): %q", c.b, c.u, b)
		}
	}
	if b := Put(nil, 5); string(b) != "\x05" {
		t.Errorf("Put behind nil: %q", b)
	}
}

// R3: Put leaves b, also what lies behind its end, and answers memory of its own.
func TestPutSharesNothing(t *testing.T) {
	room := []byte("abcdefgh")
	out := Put(room[:2], 300)
	if string(room) != "abcdefgh" {
		t.Fatalf("changed what was handed in: %q", room)
	}
	room[0] = 'z'
	if string(out) != "ab\xac\x02" {
		t.Errorf("shared: %q", out)
	}
	again := Put(out, 1)
	other := Put(out, 2)
	if string(again) != "ab\xac\x02\x01" || string(other) != "ab\xac\x02\x02" {
		t.Errorf("two answers share: %q, %q", again, other)
	}
	empty := make([]byte, 0, 8)
	Put(empty, 77)
	if empty[:1][0] != 0 {
		t.Errorf("wrote into the room of an empty list")
	}
}

// P1.3: Take's answers at the named edges; with an error all else is 0.
func TestTake(t *testing.T) {
	nine := strings.Repeat("\x80", 9)
	ten := nine + "\x80"
	full := strings.Repeat("\xff", 9)
	for _, c := range []struct {
		b string
		u uint64
		n int
		e api.Errno
	}{
		{"\x00", 0, 1, api.OK},
		{"\x00\x00", 0, 1, api.OK},
		{"\x7f\xff\xff", 127, 1, api.OK},
		{"\xac\x02", 300, 2, api.OK},
		{"\xac\x02\x80", 300, 2, api.OK},
		{full + "\x01", math.MaxUint64, 10, api.OK},
		{full + "\x01\xff\x00", math.MaxUint64, 10, api.OK},
		{nine + "\x01", 1 << 63, 10, api.OK},
		{strings.Repeat("\xff", 8) + "\x7f", math.MaxInt64, 9, api.OK},
		{"", 0, 0, api.ErrEnds},
		{"\x80", 0, 0, api.ErrEnds},
		{"\xff\xff", 0, 0, api.ErrEnds},
		{nine, 0, 0, api.ErrEnds},
		{ten, 0, 0, api.ErrEnds},
		{ten + "\x80", 0, 0, api.ErrEnds},
		{strings.Repeat("\xff", 4000), 0, 0, api.ErrEnds},
		{"\x80\x00", 0, 0, api.ErrForm},
		{"\xff\x00\x01", 0, 0, api.ErrForm},
		{"\x80\x80\x00", 0, 0, api.ErrForm},
		{nine + "\x00", 0, 0, api.ErrForm},
		{nine + "\x02", 0, 0, api.ErrForm},
		{full + "\x02", 0, 0, api.ErrForm},
		{full + "\x03", 0, 0, api.ErrForm},
		{full + "\x7f", 0, 0, api.ErrForm},
		{ten + "\x00", 0, 0, api.ErrForm},
		{ten + "\x01", 0, 0, api.ErrForm},
		{ten + ten + "\x01", 0, 0, api.ErrForm},
		{strings.Repeat("\xff", 4000) + "\x01", 0, 0, api.ErrForm},
	} {
		if u, n, e := Take([]byte(c.b)); u != c.u || n != c.n || e != c.e {
			t.Errorf("Take(%.40q): got %d, %d, %d; want %d, %d, %d", c.b, u, n, e, c.u, c.n, c.e)
		}
	}
	if u, n, e := Take(nil); u != 0 || n != 0 || e != api.ErrEnds {
		t.Errorf("Take(nil): %d, %d, %d", u, n, e)
	}
}

// plainTake is Take as the document says it, with numbers that have no end.
func plainTake(b []byte) (uint64, int, api.Errno) {
	for last, c := range b {
		if c >= 128 {
			continue
		}
		n := new(big.Int)
		for i := last; i >= 0; i-- {
			n.Lsh(n, 7).Add(n, big.NewInt(int64(b[i]&127)))
		}
		if last >= 10 || !n.IsUint64() || last > 0 && c == 0 {
			return 0, 0, api.ErrForm
		}
		return n.Uint64(), last + 1, api.OK
	}
	return 0, 0, api.ErrEnds
}

func checkTake(t *testing.T, b []byte) {
	t.Helper()
	before := string(b)
	u, n, e := Take(b)
	if wu, wn, we := plainTake(b); u != wu || n != wn || e != we {
		t.Fatalf("Take(%q): got %d, %d, %d; want %d, %d, %d", b, u, n, e, wu, wn, we)
	}
	if e == api.OK && string(Put(nil, u)) != string(b[:n]) {
		t.Fatalf("Take(%q): %d, whose Put is %q", b, u, Put(nil, u))
	}
	if string(b) != before {
		t.Fatalf("Take changed %q to %q", before, b)
	}
}

// P1.3: all short bytes, and long ones that end in each way.
func TestTakeOfMany(t *testing.T) {
	checkTake(t, nil)
	for i := range 256 {
		checkTake(t, []byte{byte(i)})
		for j := range 256 {
			checkTake(t, []byte{byte(i), byte(j)})
			checkTake(t, []byte{byte(i), byte(j), byte(i ^ j), 1})
		}
	}
	for _, c := range []byte{0x80, 0x81, 0xff} {
		for many := range 14 {
			head := bytes.Repeat([]byte{c}, many)
			checkTake(t, head)
			for last := range 256 {
				checkTake(t, append(bytes.Clone(head), byte(last)))
				checkTake(t, append(bytes.Clone(head), byte(last), 0x85, 0))
			}
		}
	}
}

// P1.7: Take of Put is the number, whatever stands behind; Put has as few bytes as can be.
func TestThereAndBackByBytes(t *testing.T) {
	for _, u := range wholeNumbers() {
		b := Put(nil, u)
		few := max(1, (new(big.Int).SetUint64(u).BitLen()+6)/7)
		if len(b) != few {
			t.Fatalf("Put of %d has %d bytes, %d would do", u, len(b), few)
		}
		for _, tail := range []string{"", "\x00", "\x01", "\x80", "\xff\xff", "\x80\x00", strings.Repeat("\x80", 12)} {
			if v, n, e := Take(append(bytes.Clone(b), tail...)); v != u || n != len(b) || e != api.OK {
				t.Fatalf("Take of Put of %d with %q behind: %d, %d, %d", u, tail, v, n, e)
			}
		}
	}
}

// P1.7: unlike numbers have unlike bytes, none of which is a beginning of the other's.
func TestNoBeginningOfAnother(t *testing.T) {
	numbers := map[string]uint64{}
	var forms []string
	for _, u := range wholeNumbers() {
		s := string(Put(nil, u))
		if v, ok := numbers[s]; ok && v != u {
			t.Fatalf("%d and %d have the same bytes", u, v)
		} else if !ok {
			forms = append(forms, s)
		}
		numbers[s] = u
	}
	// Sorted, a beginning stands right ahead of what it begins, or of another beginning of that.
	sort.Strings(forms)
	for i := 1; i < len(forms); i++ {
		if strings.HasPrefix(forms[i], forms[i-1]) {
			t.Fatalf("%q begins %q", forms[i-1], forms[i])
		}
	}
}

// P1.4: Zig and Zag, written out.
func TestZigZag(t *testing.T) {
	for _, c := range []struct {
		n int64
		u uint64
	}{
		{0, 0}, {-1, 1}, {1, 2}, {-2, 3}, {2, 4}, {150, 300}, {-150, 299},
		{1 << 62, 1 << 63}, {-1 << 62, 1<<63 - 1},
		{math.MaxInt64, math.MaxUint64 - 1}, {math.MinInt64, math.MaxUint64},
	} {
		if u := Zig(c.n); u != c.u {
			t.Errorf("Zig(%d): %d, want %d", c.n, u, c.u)
		}
		if n := Zag(c.u); n != c.n {
			t.Errorf("Zag(%d): %d, want %d", c.u, n, c.n)
		}
	}
}

// P1.4, P1.7: Zig is 2n or -2n - 1; Zag of Zig, and Zig of Zag, is the number.
func TestZigZagOfMany(t *testing.T) {
	for _, n := range append(edges(), someNumbers(7, 5000)...) {
		want := new(big.Int).Mul(big.NewInt(n), big.NewInt(2))
		if n < 0 {
			want.Neg(want).Sub(want, big.NewInt(1))
		}
		if u := Zig(n); u != want.Uint64() {
			t.Fatalf("Zig(%d): %d, want %s", n, u, want)
		}
		if m := Zag(Zig(n)); m != n {
			t.Fatalf("Zag of Zig of %d: %d", n, m)
		}
	}
	for _, u := range wholeNumbers() {
		if v := Zig(Zag(u)); v != u {
			t.Fatalf("Zig of Zag of %d: %d", u, v)
		}
	}
}
