package value

import (
	"fmt"
	"math"
	"strings"
	"testing"

	"ramble/api"
)

// P2.3: Text of each Kind, written out.
func TestText(t *testing.T) {
	for _, c := range []struct {
		v    api.Value
		want string
	}{
		{Int(0), "0"},
		{Int(-5), "-5"},
		{Int(math.MinInt64), "-9223372036854775808"},
		{Int(math.MaxInt64), "9223372036854775807"},
		{Str(""), "''"},
		{Str("a b"), "'a b'"},
		{Str("it's"), `'it\'s'`},
		{Str(`\x41`), `'\\x41'`},
		{Str("\x00\n\x1f ~\x7f\x80\xff"), `'\x00\x0a\x1f ~\x7f\x80\xff'`},
		{Str("ä"), `'\xc3\xa4'`},
		{Str(`"`), `'"'`},
		{Bool(true), "true"},
		{Bool(false), "false"},
		{list(), "[]"},
		{list(Int(1)), "[1]"},
		{list(Int(1), Str("a"), list(), Vertex(2)), "[1, 'a', [], v[2]]"},
		{dict(), "{}"},
		{dict(Int(1), Int(2)), "{1: 2}"},
		{dict(Str("a"), list(Bool(true)), Str("b"), Int(1)), "{'a': [true], 'b': 1}"},
		{dict(dict(), dict(list(), Int(1))), "{{}: {[]: 1}}"},
		{Vertex(1), "v[1]"},
		{Vertex(api.MaxId), "v[281474976710656]"},
		{Edge(12), "e[12]"},
	} {
		if s := Text(c.v); s != c.want {
			t.Errorf("Text(%v): %s, want %s", c.v, s, c.want)
		}
	}
}

// P2.3: what may not be has a text, too; ? stands for a Kind that is none, and for what lies too deep.
func TestTextOfWhatMayNotBe(t *testing.T) {
	for _, c := range []struct {
		v    api.Value
		want string
	}{
		{api.Value{}, "?"},
		{api.Value{Kind: 8, N: 1, S: "a", L: ints(2)}, "?"},
		{api.Value{Kind: -1}, "?"},
		{list(Int(1), api.Value{}), "[1, ?]"},
		{dict(api.Value{}, api.Value{Kind: 9}), "{?: ?}"},
		{Vertex(0), "v[0]"},
		{Edge(-3), "e[-3]"},
		{Vertex(math.MinInt64), "v[-9223372036854775808]"},
		{api.Value{Kind: api.VInt, N: 3, S: "a", L: ints(2)}, "3"},
		{api.Value{Kind: api.VStr, N: 3, S: "a", L: ints(2)}, "'a'"},
		{api.Value{Kind: api.VList, N: 3, S: "a", L: ints(2)}, "[0, 1]"},
		{dict(Int(2), Int(1), Int(1), Int(2), Int(1), Int(3)), "{2: 1, 1: 2, 1: 3}"},
		{dict(Int(1), Int(2), Int(3)), "{1: 2}"},
		{dict(Int(1)), "{}"},
		{Str(strings.Repeat("a", 1000)), "'" + strings.Repeat("a", 1000) + "'"},
		{within(Int(1), 7), "[[[[[[[1]]]]]]]"},
		{within(Int(1), 8), "[[[[[[[[?]]]]]]]]"},
		{within(list(), 7), "[[[[[[[[]]]]]]]]"},
		{within(list(), 8), "[[[[[[[[?]]]]]]]]"},
		{within(Int(1), 5000), "[[[[[[[[?]]]]]]]]"},
		{within(dict(Int(1), list(Int(2)), list(), Int(3)), 6), "[[[[[[{1: [?], []: 3}]]]]]]"},
		{within(dict(Int(1), list(Int(2))), 7), "[[[[[[[{?: ?}]]]]]]]"},
	} {
		if s := Text(c.v); s != c.want {
			t.Errorf("Text(%.60v): %s, want %s", c.v, s, c.want)
		}
	}
}

// P2.3: how each byte of a string is told.
func TestTextOfEachByte(t *testing.T) {
	for i := range 256 {
		c := byte(i)
		want := string([]byte{c})
		switch {
		case c == 39 || c == 92:
			want = string([]byte{92, c})
		case c < 32 || c > 126:
			want = fmt.Sprintf(`\x%02x`, c)
		}
		if s := Text(Str("(" + string([]byte{c}) + ")")); s != "'("+want+")'" {
			t.Errorf("Text of byte %d: %s", i, s)
		}
	}
}

// P2.6: unlike values that may be have unlike texts.
func TestUnlikeTexts(t *testing.T) {
	seen := map[string]api.Value{}
	for _, v := range may() {
		s := Text(v)
		if other, is := seen[s]; is && !same(other, v) {
			t.Errorf("%s is the text of %v and of %v", s, v, other)
		}
		seen[s] = v
	}
	if len(seen) < 200 {
		t.Errorf("only %d texts: the test says too little", len(seen))
	}
}
