package codec

import (
	"bytes"
	"testing"
)

// P3.2: After, written out.
func TestAfter(t *testing.T) {
	for _, c := range []struct {
		b, want string
		is      bool
	}{
		{"", "", false}, {"\xff", "", false}, {"\xff\xff", "", false}, {"\xff\xff\xff\xff\xff\xff\xff\xff\xff", "", false},
		{"\x00", "\x01", true}, {"a", "b", true}, {"\xfe", "\xff", true}, {"\x00\x00", "\x00\x01", true}, {"a\x00", "a\x01", true},
		{"\x01\xff", "\x02", true}, {"\x01\xff\xff", "\x02", true}, {"\xfe\xff", "\xff", true}, {"\x00\xff", "\x01", true},
		{"\xff\x00", "\xff\x01", true}, {"\xff\xfe", "\xff\xff", true}, {"\xff\xfe\xff", "\xff\xff", true}, {"\xffa\xff\xff", "\xffb", true},
		{"\x01\xff\x02", "\x01\xff\x03", true}, {"\x01\xff\xfe\xff", "\x01\xff\xff", true},
	} {
		b := []byte(c.b)
		if got, is := After(b); string(got) != c.want || is != c.is || !is && got != nil {
			t.Errorf("After(%q): %q, %v", c.b, got, is)
		}
		if string(b) != c.b {
			t.Errorf("After changed %q to %q", c.b, b)
		}
	}
	if got, is := After(nil); got != nil || is {
		t.Errorf("After(nil): %v, %v", got, is)
	}
}

// P3.2, P3.6: what begins with b lies from b on below After(b), and nothing else does; none less is above all of those.
func TestBetween(t *testing.T) {
	var all [][]byte
	eachOf([]byte{0, 1, 254, 255}, 4, func(b []byte) { all = append(all, b) })
	for _, b := range all {
		after, is := After(b)
		for _, x := range all {
			between := bytes.Compare(b, x) <= 0 && (!is || bytes.Compare(x, after) < 0)
			if between != bytes.HasPrefix(x, b) {
				t.Fatalf("%v begins with %v: %v; it lies below %v, %v: %v", x, b, !between, after, is, between)
			}
		}
		if is && (bytes.HasPrefix(after, b) || bytes.Compare(b, after) >= 0) {
			t.Fatalf("After(%v): %v", b, after)
		}
	}
}

// P3.6: the keys that begin with a key's values are those below what is After it.
func TestBetweenKeys(t *testing.T) {
	l := rising()
	for _, v := range l {
		from := key(t, v)
		to, is := After(from)
		if !is {
			t.Fatalf("After the key of %v: nothing", v)
		}
		for _, w := range l {
			x := key(t, w, v)
			if between := bytes.Compare(from, x) <= 0 && bytes.Compare(x, to) < 0; between != same(v, w) {
				t.Fatalf("the key of %v, %v is between those of %v: %v", w, v, v, between)
			}
		}
	}
}
