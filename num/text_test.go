package num

import (
	"math"
	"math/big"
	"regexp"
	"strings"
	"testing"

	"ramble/api"
)

// P1.2: Text and Digits, written out.
func TestTextAndDigits(t *testing.T) {
	for _, c := range []struct {
		n      int64
		text   string
		digits []int
	}{
		{0, "0", []int{0}},
		{7, "7", []int{7}},
		{-7, "-7", []int{7}},
		{10, "10", []int{1, 0}},
		{-120, "-120", []int{1, 2, 0}},
		{math.MaxInt64, "9223372036854775807", []int{9, 2, 2, 3, 3, 7, 2, 0, 3, 6, 8, 5, 4, 7, 7, 5, 8, 0, 7}},
		{math.MinInt64, "-9223372036854775808", []int{9, 2, 2, 3, 3, 7, 2, 0, 3, 6, 8, 5, 4, 7, 7, 5, 8, 0, 8}},
	} {
		if s := Text(c.n); s != c.text {
			t.Errorf("Text(%d): %q", c.n, s)
		}
		if !sameInts(Digits(c.n), c.digits) {
			t.Errorf("Digits(%d): %d", c.n, Digits(c.n))
		}
	}
}

// P1.2: over many numbers, against another writer of digits.
func TestTextOfMany(t *testing.T) {
	for _, n := range append(edges(), someNumbers(4, 5000)...) {
		want := big.NewInt(n).String()
		if s := Text(n); s != want {
			t.Fatalf("Text: %q, want %q", s, want)
		}
		var digits []int
		for _, c := range strings.TrimPrefix(want, "-") {
			digits = append(digits, int(c-'0'))
		}
		if !sameInts(Digits(n), digits) {
			t.Fatalf("Digits(%d): %d", n, Digits(n))
		}
	}
}

// R3: Digits answers memory that nobody else has.
func TestDigitsAreOwn(t *testing.T) {
	a := Digits(123)
	a[0], a[1], a[2] = 9, 9, 9
	if b := Digits(123); !sameInts(b, []int{1, 2, 3}) {
		t.Errorf("shared: %d", b)
	}
}

// P1.2: Parse's answers, the form ahead of the room.
func TestParse(t *testing.T) {
	long := strings.Repeat("9", 5000)
	for _, c := range []struct {
		s    string
		want int64
		e    api.Errno
	}{
		{"0", 0, api.OK},
		{"5", 5, api.OK},
		{"-5", -5, api.OK},
		{"1000", 1000, api.OK},
		{"9223372036854775807", math.MaxInt64, api.OK},
		{"-9223372036854775808", math.MinInt64, api.OK},
		{"9223372036854775808", 0, api.ErrOver},
		{"-9223372036854775809", 0, api.ErrOver},
		{"18446744073709551616", 0, api.ErrOver},
		{"18446744073709551617", 0, api.ErrOver},
		{"-18446744073709551617", 0, api.ErrOver},
		{"92233720368547758070", 0, api.ErrOver},
		{long, 0, api.ErrOver},
		{"-" + long, 0, api.ErrOver},
		{long + "x", 0, api.ErrNumber},
		{"0" + long, 0, api.ErrNumber},
		{"", 0, api.ErrNumber},
		{"-", 0, api.ErrNumber},
		{"--1", 0, api.ErrNumber},
		{"-0", 0, api.ErrNumber},
		{"00", 0, api.ErrNumber},
		{"-00", 0, api.ErrNumber},
		{"01", 0, api.ErrNumber},
		{"-01", 0, api.ErrNumber},
		{"+1", 0, api.ErrNumber},
		{"-+1", 0, api.ErrNumber},
		{" 1", 0, api.ErrNumber},
		{"1 ", 0, api.ErrNumber},
		{"1\n", 0, api.ErrNumber},
		{"1\x00", 0, api.ErrNumber},
		{"1_000", 0, api.ErrNumber},
		{"0x10", 0, api.ErrNumber},
		{"1e3", 0, api.ErrNumber},
		{"1.0", 0, api.ErrNumber},
		{"1-", 0, api.ErrNumber},
		{"1/", 0, api.ErrNumber},
		{"1:", 0, api.ErrNumber},
		{"\xd9\xa1", 0, api.ErrNumber},
		{"\xff", 0, api.ErrNumber},
		{"\xb1", 0, api.ErrNumber},
	} {
		if n, e := Parse(c.s); n != c.want || e != c.e {
			t.Errorf("Parse(%.40q): got %d, %d; want %d, %d", c.s, n, e, c.want, c.e)
		}
	}
}

// P1.2, P1.6: of all short texts those that are numbers, and of these Text of Parse is the text.
func TestParseOfShortTexts(t *testing.T) {
	form := regexp.MustCompile(`\A(0|-?[1-9][0-9]*)\z`)
	var try func(s string, left int)
	try = func(s string, left int) {
		n, e := Parse(s)
		switch {
		case form.MatchString(s) && (e != api.OK || Text(n) != s):
			t.Fatalf("Parse(%q): %d, %d", s, n, e)
		case !form.MatchString(s) && (e != api.ErrNumber || n != 0):
			t.Fatalf("Parse(%q): %d, %d; want ErrNumber", s, n, e)
		}
		if left == 0 {
			return
		}
		for _, c := range []byte("-+0129/: a\x00\xff") {
			try(s+string([]byte{c}), left-1)
		}
	}
	try("", 5)
}

// P1.6: Parse of Text is the number, Text of Parse the text; beyond the edges ErrOver.
func TestThereAndBackByText(t *testing.T) {
	for _, n := range append(edges(), someNumbers(5, 5000)...) {
		if m, e := Parse(Text(n)); m != n || e != api.OK {
			t.Fatalf("Parse of Text of %d: %d, %d", n, m, e)
		}
	}
	for _, edge := range []int64{math.MinInt64, math.MaxInt64} {
		for d := int64(-300); d <= 300; d++ {
			want := new(big.Int).Add(big.NewInt(edge), big.NewInt(d))
			n, e := Parse(want.String())
			wantNumber(t, "Parse "+want.String(), want, n, e)
			if e == api.OK && Text(n) != want.String() {
				t.Fatalf("Text of Parse of %s: %s", want, Text(n))
			}
		}
	}
}

func sameInts(a, b []int) bool {
	if len(a) != len(b) {
		return false
	}
	for i := range a {
		if a[i] != b[i] {
			return false
		}
	}
	return true
}
