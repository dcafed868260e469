package codec

import (
	"bytes"
	"encoding/binary"
	"math"
	"math/rand"
	"slices"
	"strings"
	"testing"

	"ramble/api"
	"ramble/value"
)

// P3.3: the bytes of each Kind, written out, there and back.
func TestPutAsWritten(t *testing.T) {
	for _, c := range []struct {
		v api.Value
		b string
	}{
		{value.Int(0), "\x01\x00"},
		{value.Int(-1), "\x01\x01"},
		{value.Int(1), "\x01\x02"},
		{value.Int(63), "\x01\x7e"},
		{value.Int(64), "\x01\x80\x01"},
		{value.Int(-65), "\x01\x81\x01"},
		{value.Int(300), "\x01\xd8\x04"},
		{value.Int(math.MaxInt64), "\x01\xfe\xff\xff\xff\xff\xff\xff\xff\xff\x01"},
		{value.Int(math.MinInt64), "\x01\xff\xff\xff\xff\xff\xff\xff\xff\xff\x01"},
		{value.Str(""), "\x02\x00"},
		{value.Str("a"), "\x02\x01a"},
		{value.Str("\x00\x01\xff"), "\x02\x03\x00\x01\xff"},
		{value.Str(strings.Repeat("b", 127)), "\x02\x7f" + strings.Repeat("b", 127)},
		{value.Str(strings.Repeat("\x00", api.MaxText)), "\x02\x80\x01" + strings.Repeat("\x00", api.MaxText)},
		{value.Bool(false), "\x03\x00"},
		{value.Bool(true), "\x03\x01"},
		{list(), "\x04\x00"},
		{list(value.Int(300)), "\x04\x01\x01\xd8\x04"},
		{list(value.Str("a"), list(), value.Bool(true)), "\x04\x03\x02\x01a\x04\x00\x03\x01"},
		{list(many(value.Bool(true), api.MaxList)...), "\x04\x80\x02" + strings.Repeat("\x03\x01", api.MaxList)},
		{nested(value.Edge(1), api.MaxDeep-1), strings.Repeat("\x04\x01", api.MaxDeep-1) + "\x07\x01"},
		{dict(), "\x05\x00"},
		{dict(value.Str("a"), value.Int(-300), value.Str("b"), value.Vertex(7)), "\x05\x04\x02\x01a\x01\xd7\x04\x02\x01b\x06\x07"},
		{value.Vertex(1), "\x06\x01"},
		{value.Vertex(300), "\x06\xac\x02"},
		{value.Vertex(api.MaxId), "\x06\x80\x80\x80\x80\x80\x80\x40"},
		{value.Edge(127), "\x07\x7f"},
		{value.Edge(api.MaxId), "\x07\x80\x80\x80\x80\x80\x80\x40"},
	} {
		for _, ahead := range []string{"", "\x00", "\x04\x02", "\xff\xff\xff"} {
			if b := Put([]byte(ahead), c.v); string(b) != ahead+c.b {
				t.Errorf("Put(%q, %.60s): %v, want %v", ahead, value.Text(c.v), b, []byte(ahead+c.b))
			}
		}
		wantRead(t, []byte(c.b), c.v, len(c.b), api.OK)
	}
}

// P3.3: of a value that may not be, b alone, in memory of its own.
func TestPutOfWhatMayNotBe(t *testing.T) {
	for _, v := range mayNot() {
		b := append(make([]byte, 0, 64), 5, 0, 255)
		got := Put(b, v)
		if string(got) != "\x05\x00\xff" {
			t.Errorf("Put(.., %.60s), Kind %d: %v", value.Text(v), v.Kind, got)
		}
		clear(got)
		if string(b) != "\x05\x00\xff" {
			t.Errorf("Put of %.60s, Kind %d, shares its bytes: %v", value.Text(v), v.Kind, b)
		}
		if got := Put(nil, v); len(got) != 0 {
			t.Errorf("Put(nil, %.60s), Kind %d: %v", value.Text(v), v.Kind, got)
		}
	}
}

func wantNoParse(t *testing.T, b []byte, e api.Errno) {
	t.Helper()
	if v, err := Parse(b); err != e || !zero(v) {
		t.Fatalf("Parse(%v), %d bytes: %v, %d; want %d", head(b), len(b), v, err, e)
	}
}

// P3.3, P3.5: Parse of Put is the value; Read finds it, whatever stands behind; bytes that are left are none of a value.
func TestThereAndBack(t *testing.T) {
	for _, v := range may() {
		b := Put(nil, v)
		if got, e := Parse(b); e != api.OK || !same(got, v) {
			t.Fatalf("Parse of Put of %.80s: %v, %d", value.Text(v), got, e)
		}
		for _, tail := range []string{"\x00", "\x01", "\x03\x01", "\x80", "\xff\xff"} {
			longer := join(b, []byte(tail))
			wantRead(t, longer, v, len(b), api.OK)
			wantNoParse(t, longer, api.ErrBytes)
		}
		wantRead(t, join(b, b), v, len(b), api.OK)
	}
}

// P3.3: bytes that end too early, wherever.
func TestReadOfCutBytes(t *testing.T) {
	wantRead(t, nil, api.Value{}, 0, api.ErrEnds)
	wantNoParse(t, nil, api.ErrEnds)
	for _, v := range may() {
		b := Put(nil, v)
		for n := range b {
			if n > 300 && n < len(b)-300 {
				continue
			}
			wantRead(t, b[:n], api.Value{}, 0, api.ErrEnds)
			wantNoParse(t, b[:n], api.ErrEnds)
		}
	}
}

// count is a number's bytes, as the library writes them.
func count(u uint64) string { return string(binary.AppendUvarint(nil, u)) }

// wantRefused holds Read and Parse against one error, of s alone, within a list, and as a map's value.
func wantRefused(t *testing.T, s string, e api.Errno) {
	t.Helper()
	for _, s := range []string{s, "\x04\x01" + s, "\x04\x02\x02\x01a" + s, "\x05\x02\x03\x01" + s} {
		wantRead(t, []byte(s), api.Value{}, 0, e)
		wantNoParse(t, []byte(s), e)
	}
}

// P3.3: Kinds that are none, whatever stands behind them.
func TestReadOfKinds(t *testing.T) {
	for kind := range 256 {
		for _, behind := range []string{"", "\x00", "\x01", "\x80", "\x80\x00", "\x01\x03\x01"} {
			if kind < api.VInt || kind > api.VEdge {
				wantRefused(t, string([]byte{byte(kind)})+behind, api.ErrBytes)
			}
		}
	}
}

// P3.3: numbers that are not in num's one form, and such as have no end, of each Kind that has one.
func TestReadOfNumbers(t *testing.T) {
	for _, kind := range []string{"\x01", "\x02", "\x04", "\x05", "\x06", "\x07"} {
		for _, s := range []string{"\x80\x00", "\x81\x00", "\xff\x80\x00", "\xff\xff\xff\xff\xff\xff\xff\xff\xff\x02", "\x80\x80\x80\x80\x80\x80\x80\x80\x80\x00", "\x81\x80\x80\x80\x80\x80\x80\x80\x80\x80\x01"} {
			wantRefused(t, kind+s, api.ErrBytes)
			wantRefused(t, kind+s+"\x03\x01", api.ErrBytes)
		}
		for _, s := range []string{"", "\x80", "\xff\x80", "\x80\x80\x80\x80\x80\x80\x80\x80\x80"} {
			wantRefused(t, kind+s, api.ErrEnds)
		}
	}
}

// P3.3: more than may be is refused where it is told, though bytes end behind it; what Check refuses only when all is read.
func TestReadOfLimits(t *testing.T) {
	for _, u := range []uint64{api.MaxText + 1, 255, 256, 1 << 20, 1 << 32, 1 << 63, math.MaxUint64} {
		wantRefused(t, "\x02"+count(u), api.ErrBytes)
		wantRefused(t, "\x02"+count(u)+strings.Repeat("a", 300), api.ErrBytes)
	}
	for _, u := range []uint64{api.MaxList + 1, 2 * api.MaxList, 1 << 32, 1<<32 + 1, 1 << 63, math.MaxUint64} {
		wantRefused(t, "\x04"+count(u), api.ErrBytes)
		wantRefused(t, "\x04"+count(u)+strings.Repeat("\x03\x01", api.MaxList+1), api.ErrBytes)
	}
	for _, u := range []uint64{2*api.MaxList + 1, 2*api.MaxList + 2, 1 << 32, 1<<32 + 2, 1 << 63, math.MaxUint64} {
		wantRefused(t, "\x05"+count(u), api.ErrBytes)
	}
	wantRefused(t, "\x02"+count(api.MaxText), api.ErrEnds)
	wantRefused(t, "\x04"+count(api.MaxList), api.ErrEnds)
	wantRefused(t, "\x05"+count(2*api.MaxList), api.ErrEnds)
	// A map's keys and values are counted, not its pairs: as many as a list may have, and more.
	wantRead(t, Put(nil, risingKeys(api.MaxList)), risingKeys(api.MaxList), len(Put(nil, risingKeys(api.MaxList))), api.OK)
}

// P3.3: values that stand deeper than may be. Where bytes end ahead of one, they end too early.
func TestReadOfTheDeep(t *testing.T) {
	lists := func(n int) string { return strings.Repeat("\x04\x01", n) }
	for _, inner := range []string{"\x03\x01", "\x04\x00", "\x05\x00", "\x01", "\x02\x05", "\x08", "\x00"} {
		for n := api.MaxDeep; n < api.MaxDeep+5; n++ {
			wantRead(t, []byte(lists(n)+inner), api.Value{}, 0, api.ErrBytes)
			wantNoParse(t, []byte(lists(n)+inner), api.ErrBytes)
		}
	}
	for n := 1; n <= api.MaxDeep; n++ {
		wantRead(t, []byte(lists(n)), api.Value{}, 0, api.ErrEnds)
		wantRead(t, []byte(lists(n-1)+"\x04\x00"), nested(list(), n-1), 2*n, api.OK)
		wantRead(t, []byte(lists(n-1)+"\x03\x01"), nested(value.Bool(true), n-1), 2*n, api.OK)
	}
	wantRead(t, []byte(lists(api.MaxDeep-2)+"\x05\x02\x03\x01"), api.Value{}, 0, api.ErrEnds)
	wantRead(t, []byte(lists(api.MaxDeep-1)+"\x05\x02\x03\x01"), api.Value{}, 0, api.ErrBytes)
	wantNoParse(t, []byte(strings.Repeat("\x04\x01", 1<<16)), api.ErrBytes)
	wantNoParse(t, []byte(strings.Repeat("\x05\x02", 1<<16)), api.ErrBytes)
	wantNoParse(t, []byte("\x05\x02\x03\x00"+lists(api.MaxDeep-1)+"\x03\x01"), api.ErrBytes)
	wantNoParse(t, []byte("\x05\x02"+lists(api.MaxDeep-1)+"\x03\x01\x03\x01"), api.ErrBytes)
}

// P3.3: whole bytes of what value.Check refuses, and Check is asked last: where bytes end behind it, they end too early.
func TestReadOfWhatMayNotBe(t *testing.T) {
	var refused []string
	for n := 2; n < 256; n++ {
		refused = append(refused, "\x03"+string([]byte{byte(n)}))
	}
	for _, kind := range []string{"\x06", "\x07"} {
		for _, id := range []uint64{0, api.MaxId + 1, 1 << 62, 1<<63 - 1, 1 << 63, 1<<63 + 1, math.MaxUint64} {
			refused = append(refused, kind+count(id))
		}
	}
	refused = append(refused,
		"\x05\x01\x03\x01", "\x05\x03\x01\x02\x03\x01\x01\x04", // a key without a value
		"\x05\x04\x01\x02\x03\x01\x01\x02\x03\x01", "\x05\x04\x01\x04\x03\x01\x01\x02\x03\x01", "\x05\x04\x02\x00\x03\x01\x01\x00\x03\x01", // keys that do not rise
	)
	for _, s := range refused {
		wantRefused(t, s, api.ErrBytes)
		wantRefused(t, s+"\x03\x01", api.ErrBytes)
		for _, cut := range []string{"", "\x01", "\x02\x01", "\x06\x80"} {
			wantRead(t, []byte("\x04\x02"+s+cut), api.Value{}, 0, api.ErrEnds)
			wantRead(t, []byte("\x05\x02"+s+cut), api.Value{}, 0, api.ErrEnds)
		}
		wantRead(t, []byte("\x04\x02"+s+"\x08"), api.Value{}, 0, api.ErrBytes)
	}
}

// P3.3: of several faults the first one from the left tells.
func TestReadOfSeveralFaults(t *testing.T) {
	for s, e := range map[string]api.Errno{
		"\x04\x02\x08":                  api.ErrBytes,
		"\x04\x02\x01":                  api.ErrEnds,
		"\x04\x02\x01\x80\x00":          api.ErrBytes,
		"\x04\x02\x02\x05abc":           api.ErrEnds,
		"\x04\x02\x02\x81\x01":          api.ErrBytes,
		"\x04\x02\x04\x81\x02\x08":      api.ErrBytes,
		"\x04\x02\x03\x02\x01":          api.ErrEnds,
		"\x04\x02\x03\x02\x03\x01\x08":  api.ErrBytes,
		"\x05\x01":                      api.ErrEnds,
		"\x05\x04\x01\x02\x01\x02\x01":  api.ErrEnds,
		"\x05\x03\x01\x02\x01\x02\x01":  api.ErrEnds,
		"\x06\x00\x08":                  api.ErrBytes,
		"\x03":                          api.ErrEnds,
		"\x02\x02a":                     api.ErrEnds,
		"\x06\x80\x80\x80\x80\x80\x80":  api.ErrEnds,
		"\x04\x01\x04\x01\x04\x01\x08A": api.ErrBytes,
	} {
		wantRead(t, []byte(s), api.Value{}, 0, e)
	}
}

// plainRead is Read as the document says it, by means of the library, and with a panic where it is refused.
func plainRead(b []byte) (v api.Value, n int, e api.Errno) {
	defer func() {
		if p := recover(); p != nil {
			v, n, e = api.Value{}, 0, p.(api.Errno)
		}
	}()
	v, rest := plainPart(b, 1)
	if value.Check(v) != api.OK {
		panic(api.ErrBytes)
	}
	return v, len(b) - len(rest), api.OK
}

func plainNumber(b []byte) (uint64, []byte) {
	if !slices.ContainsFunc(b, func(c byte) bool { return c < 128 }) {
		panic(api.ErrEnds)
	}
	u, n := binary.Uvarint(b)
	if n <= 0 || n > 1 && b[n-1] == 0 {
		panic(api.ErrBytes)
	}
	return u, b[n:]
}

func plainPart(b []byte, deep int) (api.Value, []byte) {
	if len(b) == 0 {
		panic(api.ErrEnds)
	}
	v, b := api.Value{Kind: int(b[0])}, b[1:]
	if v.Kind < api.VInt || v.Kind > api.VEdge || deep > api.MaxDeep {
		panic(api.ErrBytes)
	}
	if v.Kind == api.VBool {
		if len(b) == 0 {
			panic(api.ErrEnds)
		}
		v.N = int64(b[0])
		return v, b[1:]
	}
	u, b := plainNumber(b)
	switch v.Kind {
	case api.VInt:
		v.N = int64(u / 2)
		if u%2 == 1 {
			v.N = -1 - v.N
		}
		return v, b
	case api.VVertex, api.VEdge:
		v.N = int64(u)
		return v, b
	}
	most := map[int]uint64{api.VStr: api.MaxText, api.VList: api.MaxList, api.VMap: 2 * api.MaxList}
	if u > most[v.Kind] {
		panic(api.ErrBytes)
	}
	if v.Kind == api.VStr {
		if uint64(len(b)) < u {
			panic(api.ErrEnds)
		}
		v.S = string(b[:u])
		return v, b[u:]
	}
	for range u {
		var part api.Value
		part, b = plainPart(b, deep+1)
		v.L = append(v.L, part)
	}
	return v, b
}

// checkRead holds Read and Parse against plainRead, and against P3.5: what is read has those bytes.
func checkRead(t *testing.T, b []byte) api.Errno {
	t.Helper()
	v, n, e := plainRead(b)
	wantRead(t, b, v, n, e)
	switch {
	case e != api.OK:
		wantNoParse(t, b, e)
	case n < len(b):
		wantNoParse(t, b, api.ErrBytes)
	default:
		if got, e := Parse(b); e != api.OK || !same(got, v) {
			t.Fatalf("Parse(%v): %v, %d", b, got, e)
		}
	}
	if e == api.OK && (value.Check(v) != api.OK || !bytes.Equal(Put(nil, v), b[:n])) {
		t.Fatalf("Read(%v): %v, whose bytes are %v", b, v, Put(nil, v))
	}
	return e
}

// P3.3, P3.5: all short bytes of those that mean something.
func TestReadOfMany(t *testing.T) {
	counts := map[api.Errno]int{}
	eachOf([]byte{0, 1, 2, 3, 4, 5, 6, 8, 128, 255}, 5, func(b []byte) { counts[checkRead(t, b)]++ })
	eachOf([]byte{0, 1, 2, 4, 5}, 8, func(b []byte) { counts[checkRead(t, b)]++ })
	if counts[api.OK] < 10000 || counts[api.ErrEnds] < 10000 || counts[api.ErrBytes] < 10000 {
		t.Errorf("too few of one answer: %v", counts)
	}
}

// P3.3, P3.5: bytes of values in which some were changed, taken out or put between.
func TestReadOfChangedBytes(t *testing.T) {
	r := rand.New(rand.NewSource(8))
	counts := map[api.Errno]int{}
	for _, v := range may() {
		for range 60 {
			b := Put(nil, v)
			for range 1 + r.Intn(3) {
				at := r.Intn(len(b))
				c := []byte{byte(r.Intn(10)), byte(r.Intn(256)), b[at] + 1, b[at] - 1}[r.Intn(4)]
				switch r.Intn(3) {
				case 0:
					b[at] = c
				case 1:
					b = join(b[:at], []byte{c}, b[at:])
				case 2:
					b = join(b[:at], b[at+1:], []byte{c})
				}
			}
			counts[checkRead(t, b)]++
		}
	}
	if counts[api.OK] < 2000 || counts[api.ErrEnds] < 2000 || counts[api.ErrBytes] < 2000 {
		t.Errorf("too few of one answer: %v", counts)
	}
}

// P3.5: unlike values have unlike bytes, none of which is a beginning of the other's.
func TestNoBeginningOfAnother(t *testing.T) {
	l := may()
	forms := make([][]byte, len(l))
	for i, v := range l {
		forms[i] = Put(nil, v)
		for j := range i {
			if begins := bytes.HasPrefix(forms[i], forms[j]) || bytes.HasPrefix(forms[j], forms[i]); begins != same(v, l[j]) {
				t.Fatalf("of the bytes of %.60s and %.60s one begins the other: %v", value.Text(v), value.Text(l[j]), begins)
			}
		}
	}
}

// R3: what is answered shares nothing with what is handed in, and leaves it as it was.
func TestPlainBytesAreOwn(t *testing.T) {
	v := list(list(value.Str("ab")), risingKeys(2))
	ahead := append(make([]byte, 0, 99), 7, 8)
	b := Put(ahead, v)
	if full := ahead[:3]; full[2] != 0 {
		t.Errorf("Put wrote behind what it was handed: %v", full)
	}
	b[0] = 9
	if ahead[0] != 7 || !same(v, list(list(value.Str("ab")), risingKeys(2))) {
		t.Errorf("Put shares its bytes, or changed its value: %v, %v", ahead, v)
	}
	got, _, _ := Read(b[2:])
	again, _ := Parse(b[2:])
	clear(b)
	if !same(got, v) || !same(again, v) {
		t.Errorf("changed with the bytes: %v, %v", got, again)
	}
	spoil(got)
	if !same(again, v) {
		t.Errorf("two answers share a list: %v", again)
	}
}

// P1: a list that stands within itself may not be, and no call hangs on it.
func TestOfAListWithinItself(t *testing.T) {
	l := make([]api.Value, 2)
	l[0], l[1] = list(l...), value.Int(1)
	if b := Put([]byte{1}, l[0]); string(b) != "\x01" {
		t.Errorf("Put: %v", b)
	}
	wantNoKey(t, api.ErrValue, l[0])
}
