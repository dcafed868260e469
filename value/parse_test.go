package value

import (
	"fmt"
	"math/rand"
	"slices"
	"strings"
	"testing"

	"ramble/api"
)

// wantRefused tells whether Parse refuses s with that error and place, and answers nothing else.
func wantRefused(t *testing.T, s string, at int, e api.Errno) {
	t.Helper()
	v, gotAt, gotE := Parse(s)
	if gotE != e || gotAt != at || !zero(v) {
		t.Errorf("Parse(%.70q): %v, %d, %d; want %d, %d", s, v, gotAt, gotE, at, e)
	}
}

// P2.6: Parse of Text is the value.
func TestThereAndBack(t *testing.T) {
	for _, v := range may() {
		s := Text(v)
		if got, at, e := Parse(s); e != api.OK || at != 0 || !same(got, v) {
			t.Errorf("Parse(%.80s): %v, %d, %d", s, got, at, e)
		}
	}
}

// P2.3: a text that ends too early: its length, wherever it was cut.
func TestParseOfCutTexts(t *testing.T) {
	for _, v := range may() {
		s := Text(v)
		if len(s) > 600 {
			continue
		}
		for n := range len(s) {
			got, at, e := Parse(s[:n])
			if v.Kind == api.VInt && n > len(strings.TrimRight(s, "0123456789")) {
				if e != api.OK || at != 0 || Text(got) != s[:n] {
					t.Errorf("Parse(%q): %v, %d, %d", s[:n], got, at, e)
				}
			} else if e != api.ErrText || at != n || !zero(got) {
				t.Errorf("Parse(%q): %v, %d, %d", s[:n], got, at, e)
			}
		}
	}
}

// P2.3: bytes that no text has there, at each place, whatever follows.
func TestParseOfTextsThatGoOnWrongly(t *testing.T) {
	for _, v := range may() {
		s := Text(v)
		if len(s) > 300 {
			continue
		}
		for n := range len(s) + 1 {
			for _, c := range []string{"\x00", "\x1f", "\x7f", "\xff", "\n"} {
				wantRefused(t, s[:n]+c+s[n:], n, api.ErrText)
				wantRefused(t, s[:n]+c, n, api.ErrText)
				if n < len(s) {
					wantRefused(t, s[:n]+c+s[n+1:], n, api.ErrText)
				}
			}
		}
	}
}

// P2.3: where a text of a value that may be does not go on so.
func TestParseOfNoTexts(t *testing.T) {
	for s, at := range map[string]int{
		"": 0, " 1": 0, "1 ": 1, "x": 0, "T": 0, "+1": 0, "\"a\"": 0, "nil": 0, ")": 0, "]": 0, "}": 0, ":": 0, ",": 0,
		"-": 1, "--1": 1, "-0": 1, "-a": 1, "00": 1, "007": 1, "-01": 1, "1-": 1, "1.0": 1, "12a": 2, "1_0": 1, "0x1": 1,
		"9223372036854775808": 18, "-9223372036854775809": 19, "92233720368547758070": 19, "10000000000000000000": 19,
		"t": 1, "tru": 3, "true ": 4, "truE": 3, "f": 1, "fals": 4, "falsy": 4, "falsee": 5, "tfalse": 1,
		"'": 1, "'a": 2, "'a'b": 3, "''": -1, "'''": 2, `'\`: 2, `'\'`: 3, `'\n'`: 2, `'\x`: 3, `'\x0`: 4, `'\x00`: 5,
		`'\x41'`: 3, `'\x20'`: 3, `'\x7e'`: 4, `'\x7d'`: 4, `'\x2`: 3, `'\x6`: 3, `'\x7`: 4, `'\x0A'`: 4, `'\xA0'`: 3, `'\xg0'`: 3, `'\x0g'`: 4, `'\X00'`: 2,
		`'\x1'`: 4, "'\x00'": 1, "'a\x1fb'": 2, "'\x7f'": 1, "'\x80'": 1, "'ä'": 1,
		"[": 1, "[,": 1, "[1": 2, "[1,": 3, "[1, ": 4, "[1, ]": 4, "[1,2]": 3, "[1 , 2]": 2, "[1;": 2, "[ ]": 1, "[1}": 2, "[]]": 2, "[[": 2, "[[]": 3, "[1, 2": 5, "[1,  2]": 4, "[1]2": 3,
		"{": 1, "{,": 1, "{1": 2, "{1}": 2, "{1,": 2, "{1:": 3, "{1: ": 4, "{1: }": 4, "{1:2}": 3, "{1: 2": 5, "{1: 2,": 6, "{1: 2, ": 7, "{1: 2, }": 7, "{1: 2,3": 6, "{1: 2]": 5, "{ }": 1, "{1 : 2}": 2, "{1: 2, 3}": 8, "{1: 2: 3}": 5, "{'a'}": 4,
		"v": 1, "v1": 1, "v[": 2, "v[]": 2, "v[ 1]": 2, "v[1": 3, "v[1 ]": 3, "v[1}": 3, "v[1]]": 4, "v[01]": 2, "v[-0]": 2, "v[+1]": 2, "v(1)": 1, "V[1]": 0,
		"e": 1, "e1": 1, "e[": 2, "e[]": 2, "e[12": 4, "e['a']": 2,
	} {
		if at >= 0 {
			wantRefused(t, s, at, api.ErrText)
		} else if _, _, e := Parse(s); e != api.OK {
			t.Errorf("Parse(%q): %d", s, e)
		}
	}
}

// P2.3: a value that may not be, with its text whole.
func TestParseOfWhatMayNotBe(t *testing.T) {
	for _, s := range []string{
		"v[0]", "v[-1]", "v[281474976710657]", "v[9223372036854775807]", "v[-9223372036854775808]", "e[0]", "e[281474976710657]",
		"[1, v[0]]", "{1: 2, 1: 3}", "{2: 1, 1: 1}", "{'b': 1, 'a': 2}", "{true: 1, false: 1}", "{v[0]: 1}", "{[1]: 1, []: 1}", "[[{2: 1, 1: 1}]]",
		"?", "[?]", "[1, ?, 2]", "{?: ?}", "{1: ?}", "[[[[[[[[?]]]]]]]]", "[[[[[[[[?, ?]]]]]]]]", "[[[[[[[{?: ?}]]]]]]]",
		Text(Str(strings.Repeat("a", api.MaxText+1))), Text(Str(strings.Repeat("\x00", api.MaxText+1))),
		Text(list(ints(api.MaxList + 1)...)), Text(dict(ints(2*api.MaxList + 2)...)),
	} {
		wantRefused(t, s, 0, api.ErrValue)
	}
	for _, v := range mayNot() {
		s := Text(v)
		got, at, e := Parse(s)
		switch {
		case at != 0:
			t.Errorf("Parse(%.70s): %d, %d", s, at, e)
		case e == api.OK && (Check(got) != api.OK || Text(got) != s): // a fault that no text tells
			t.Errorf("Parse(%.70s): %v", s, got)
		case e != api.OK && (e != api.ErrValue || !zero(got)):
			t.Errorf("Parse(%.70s): %v, %d", s, got, e)
		}
	}
}

// P2.3: where the limits of ids, strings, lists, maps and of depth are passed in a text that is not whole.
func TestParseBeyondLimits(t *testing.T) {
	text := "'" + strings.Repeat("a", api.MaxText)
	many := strings.TrimSuffix(Text(list(ints(api.MaxList)...)), "]")
	pairs := strings.TrimSuffix(Text(dict(ints(2*api.MaxList)...)), "}")
	for s, at := range map[string]int{
		"v[0": 2, "v[-": 2, "v[-1": 2, "v[0x": 2, "e[0": 2,
		"v[281474976710656": 17, "v[281474976710657": 16, "v[281474976710656x": 17, "v[281474976710660": 16, "v[281474976710665": 16, "v[29": 4, "v[290000000000000": 16,
		"e[281474976710657": 16, "e[999999999999999": 16, "e[9223372036854775808]": 16, "[1, v[0": 6, "[v[0], 1": 3,
		text: 129, text + "a": 129, text + `\`: 129, text + `\x00`: 129, text + "''": 130, text + "a'x": 129,
		many: len(many), many + ",": len(many), many + ", ": len(many), many + ", 1": len(many), many + "]x": len(many) + 1,
		pairs: len(pairs), pairs + ",": len(pairs), pairs + ", 600: 1": len(pairs), pairs + "}x": len(pairs) + 1,
		"[[[[[[[[": 8, "[[[[[[[[[": 8, "[[[[[[[[1": 8, "[[[[[[[[[]]]]]]]]]": 8, "[[[[[[[[1]]]]]]]]": 8, "[[[[[[[1": 8, "[[[[[[[[]": 9, "[[[[[[[[?": 8,
		"{{{{{{{{": 8, "{{{{{{{{{": 8, "{{{{{{{{1": 8, "[[[[[[[{1": 8, strings.Repeat("[", 100000): 8, strings.Repeat("{", 100000): 8,
		"[?": 1, "?x": 0, "[1, ?, 2": 4, "{?: 1": 1, "{1: ?, ": 4,
	} {
		wantRefused(t, s, at, api.ErrText)
	}
}

// P2.3: where a key of a map can no longer rise, in a text that is not whole.
func TestParseOfKeysThatDoNotRise(t *testing.T) {
	for s, at := range map[string]int{
		"{5: 1, 3": 8, "{5: 1, 3:": 8, "{5: 1, 30:": 10, "{5: 1, 5:": 8, "{5: 1, 50: ": 11, "{5: 1, -": 7, "{5: 1, 0": 7, "{-5: 1, -": 9, "{-5: 1, -6": 9, "{-5: 1, -5": 9, "{-5: 1, -4": 10, "{-5: 1, -40": 10, "{-50: 1, -4": 11, "{-1: 1, -": 8, "{-2: 1, -": 9, "{-1: 1, 0": 9,
		"{9223372036854775807: 1, 9": 25, "{9223372036854775806: 1, 9223372036854775807": 44, "{9223372036854775806: 1, 8": 25, "{3999999999999999999: 1, 3": 25, "{3999999999999999998: 1, 3": 26, "{939999999999999999: 1, 93": 25, "{939999999999999998: 1, 93": 26,
		"{'b': 1, 'a": 10, "{'b': 1, 'b": 11, "{'b': 1, 'b'": 11, "{'b': 1, 'ba": 12, "{'b': 1, '": 10, "{'b': 1, 1": 9, "{'b': 1, ''": 10, `{'b': 1, '\`: 11, `{'b': 1, '\x0`: 12, `{'b': 1, '\x8`: 13, `{'b': 1, '\'`: 11, `{']': 1, '\\`: 11, `{'[': 1, '\\`: 12,
		`{'\x7f': 1, '\x7`: 16, `{'\x7f': 1, '\x7f'`: 17, `{'\x7f': 1, '~`: 13, `{'\x1f': 1, '\x1`: 16, `{'\x1f': 1, '\x0`: 15,
		"{true: 1, t": 10, "{true: 1, f": 10, "{false: 1, f": 11, "{false: 1, t": 12, "{false: 1, true": 15, "{true: 1, '": 10, "{true: 1, [": 11,
		"{[]: 1, [": 9, "{[]: 1, []": 9, "{[1]: 1, []": 10, "{[1]: 1, [1": 11, "{[1]: 1, [1]": 11, "{[1]: 1, [1, ": 13, "{[1]: 1, [0": 10, "{[1]: 1, [2": 11, "{[2]: 1, [1]": 11, "{[2, 5]: 1, [2, 1]": 17, "{[2, 5]: 1, [2, -": 16, "{[2, 5]: 1, [2]": 14, "{['b', 1]: 1, ['a": 16,
		"{{}: 1, {": 9, "{{}: 1, {}": 9, "{{1: 1}: 1, {1: 1}": 17, "{{1: 1}: 1, {1: 0": 16, "{{2: 1}: 1, {1: 1": 14, "{{}: 1, []": 8,
		"{v[5]: 1, v[4": 13, "{v[5]: 1, v[4]": 13, "{v[5]: 1, v[5": 13, "{v[5]: 1, v[5]": 13, "{v[5]: 1, v[50": 14, "{v[5]: 1, {": 10, "{v[281474976710656]: 1, v": 24, "{v[281474976710656]: 1, e": 25, "{v[281474976710655]: 1, v[3": 26, "{v[281474976710655]: 1, v[281474976710656": 41,
		"{v[39999999999999]: 1, v[3": 25, "{v[39999999999998]: 1, v[3": 26,
		"{e[281474976710656]: 1": 22, "{e[281474976710656]: 1,": 22, "{e[281474976710655]: 1,": 23, "{e[281474976710655]: 1, e[3": 26, "{e[281474976710655]: 1, v": 24,
		"{1: {5: 1, 3:": 12, "[{5: 1, 3:": 9, "{{5: 1, 3:": 9, "{1: 1, {2: 1, 1: ": 15, "{[{2: 1, 1: 1}]: 1, 5": 10, "{1: 1, 2: {'b': 1, 'a": 20,
		"{'b': 1, 'a': 2": 10, "{'b': 1, 'a': 2}x": 10, "{2: 1, 1: 1} ": 8, "{1: 1, 1: 1}}": 8,
	} {
		if at >= 0 {
			wantRefused(t, s, at, api.ErrText)
		}
	}
}

// P2.3: a list that can't grow is the greatest that begins so; one that can still rises.
func TestParseOfKeysAtTheLimits(t *testing.T) {
	edges := strings.TrimSuffix(strings.Repeat("e[281474976710656], ", api.MaxList), ", ")
	fewer := strings.TrimSuffix(strings.Repeat("e[281474976710656], ", api.MaxList-1), ", ")
	full := strings.Repeat(`\xff`, api.MaxText)
	most := "{" + Text(list(slices.Repeat([]api.Value{Edge(api.MaxId)}, api.MaxList)...)) + ": 1, "
	short := strings.TrimSuffix(Text(dict(append(ints(2*api.MaxDeep-1), Str(""))...)), "}")
	long := strings.TrimSuffix(Text(dict(append(ints(2*api.MaxList-3), Str(""))...)), "}")
	longest := strings.TrimSuffix(Text(dict(append(ints(2*api.MaxList-1), Edge(api.MaxId))...)), "}")
	for _, c := range []struct {
		s  string
		at int
	}{
		{most + "[", len(most)},
		{most + "{", len(most) + 1},
		{"{[" + fewer + "]: 1, [", len("{[" + fewer + "]: 1, [")},
		{"{[" + fewer + "]: 1, [" + edges, len("{[" + fewer + "]: 1, [" + edges)},
		{"{[" + fewer + "]: 1, [" + fewer + "]", len("{[" + fewer + "]: 1, [" + fewer)},
		{"{'" + full + "': 1, '", len("{'" + full + "': 1, ")},
		{"{'" + full[4:] + "': 1, '" + full, len("{'" + full[4:] + "': 1, '" + full)},
		{"{'" + full[4:] + "': 1, '" + full[4:] + "'", len("{'" + full[4:] + "': 1, '" + full[4:])},
		{"[[[[[[{[]: 1, [", 14}, // eight deep there is but the empty list
		{"[[[[[{[]: 1, [", 14},
		{"[[[[[[{{}: 1, {", 14},
		{"[[[[[{[[]]: 1, [[", 17},
		{"[[[[[{[[], []]: 1, [[", 21},
		{"{{e[281474976710656]: e[281474976710656]}: 1, {", 46},
		{"{{e[281474976710656]: e[281474976710655]}: 1, {", 47},
		{"{{e[7]: ''}: 1, {e[7]: ''", 25},
		{"{" + short + "}: 1, " + short, len("{" + short + "}: 1, " + short)},
		{"{" + long + "}: 1, " + long, len("{" + long + "}: 1, " + long)},
		{"{" + long + "}: 1, " + long + "}", len("{" + long + "}: 1, " + long)},
		{"{" + longest + "}: 1, " + longest, len("{"+longest+"}: 1, "+longest) - len(": e[281474976710656]")},
	} {
		wantRefused(t, c.s, c.at, api.ErrText)
	}
}

// P2.3: whatever bytes stand in a text, Parse's place parts what begins texts from what begins none.
func TestParseOfSpoiltTexts(t *testing.T) {
	r := rand.New(rand.NewSource(11))
	var texts []string
	for _, v := range may() {
		if s := Text(v); len(s) < 200 {
			texts = append(texts, s)
		}
	}
	for range 60000 {
		a, b := texts[r.Intn(len(texts))], texts[r.Intn(len(texts))]
		s := a[:r.Intn(len(a)+1)] + b[r.Intn(len(b)+1):]
		v, at, e := Parse(s)
		switch e {
		case api.OK:
			if at != 0 || Text(v) != s || Check(v) != api.OK {
				t.Fatalf("Parse(%q): %v, %d", s, v, at)
			}
		case api.ErrValue:
			if at != 0 || !zero(v) {
				t.Fatalf("Parse(%q): %v, %d", s, v, at)
			}
		case api.ErrText:
			wantPlace(t, s, at, texts)
		default:
			t.Fatalf("Parse(%q): %d", s, e)
		}
	}
}

// wantPlace holds a place against texts, of which none may go on with it, against a value whose text begins with what
// is ahead of it, and against what Parse says of beginnings of s, which is the same place.
func wantPlace(t *testing.T, s string, at int, texts []string) {
	t.Helper()
	if at > len(s) {
		t.Fatalf("Parse(%q): %d", s, at)
	}
	if v, _, whole := read(s[:at], true); !whole || Check(v) != api.OK || !strings.HasPrefix(Text(v), s[:at]) {
		t.Fatalf("Parse(%q): %d, but %v is no value with such a text", s, at, v)
	}
	if _, n, e := Parse(s[:at]); e == api.ErrValue || e == api.ErrText && n != at {
		t.Fatalf("Parse(%q): %d; of what is ahead: %d, %d", s, at, n, e)
	}
	if at == len(s) {
		return
	}
	if _, n, e := Parse(s[:at+1]); e == api.OK || e == api.ErrText && n != at {
		t.Fatalf("Parse(%q): %d; with that byte alone: %d, %d", s, at, n, e)
	}
	for _, other := range texts {
		if strings.HasPrefix(other, s[:at+1]) {
			t.Fatalf("Parse(%q): %d, but there is %q", s, at, other)
		}
	}
}

// P2.3: of two keys, of which the second one rises or not, each beginning.
func TestParseOfTwoKeys(t *testing.T) {
	r := rand.New(rand.NewSource(12))
	pool := may()
	for range 600 {
		first, second := pool[r.Intn(len(pool))], pool[r.Intn(len(pool))]
		if Check(dict(first, second)) != api.OK {
			continue // too deep
		}
		var texts []string
		for _, v := range pool {
			if m := dict(first, Int(1), v, Int(1)); Check(m) == api.OK {
				texts = append(texts, Text(m))
			}
		}
		s := Text(dict(first, Int(1), second, Int(1)))
		from := len(Text(dict(first, Int(1)))) - 1
		for n := from; n < len(s); n += 1 + (len(s)-from)/20 {
			_, at, e := Parse(s[:n])
			if e != api.ErrText || Compare(first, second) < 0 && at != n {
				t.Fatalf("Parse(%q): %d, %d", s[:n], at, e)
			}
			wantPlace(t, s[:n], at, texts)
		}
	}
}

// P1: of all texts of few bytes, Parse ends, and each that it reads is the one text of its value.
func TestParseOfShortTexts(t *testing.T) {
	read := 0
	var all func(s string, left int)
	all = func(s string, left int) {
		v, at, e := Parse(s)
		if e == api.OK {
			read++
			if Text(v) != s {
				t.Fatalf("Parse(%q): %v", s, v)
			}
		} else if at > len(s) || !zero(v) {
			t.Fatalf("Parse(%q): %v, %d, %d", s, v, at, e)
		}
		if left > 0 {
			for _, c := range []byte("[]{}:, '\\v0-1") {
				all(s+string([]byte{c}), left-1)
			}
		}
	}
	all("", 5)
	if read < 100 {
		t.Errorf("only %d were read", read)
	}
}

// R4, R3: the same text, the same value, in memory of its own each time.
func TestParseAnswersItsOwn(t *testing.T) {
	s := "{'a': [[1], 2]}"
	a, _, _ := Parse(s)
	spoil(a)
	if b, _, e := Parse(s); e != api.OK || Text(b) != s {
		t.Errorf("%v, %d", b, e)
	}
}

// P2.3: what Parse tells of each byte behind a beginning is what the texts with that beginning have there.
func TestParseOfEachByteOfAString(t *testing.T) {
	for i := range 256 {
		raw := "'" + string([]byte{byte(i)})
		want := 2
		switch {
		case i < 32 || i > 126:
			want = 1
		case i == '\'':
			continue // the empty string
		}
		wantRefused(t, raw, want, api.ErrText)
		told := fmt.Sprintf(`'\x%02x'`, i)
		v, at, e := Parse(told)
		switch {
		case i < 32 || i > 126:
			if e != api.OK || at != 0 || v.S != string([]byte{byte(i)}) {
				t.Errorf("Parse(%s): %v, %d, %d", told, v, at, e)
			}
		case i < 112:
			wantRefused(t, told, 3, api.ErrText)
		default:
			wantRefused(t, told, 4, api.ErrText)
		}
	}
}
