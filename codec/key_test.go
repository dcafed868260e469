package codec

import (
	"bytes"
	"encoding/binary"
	"math"
	"math/rand"
	"slices"
	"strings"
	"testing"

	"ramble/api"
	"ramble/value"
)

// written are keys of one value, byte by byte.
func written() []struct {
	v api.Value
	b string
} {
	zeros := strings.Repeat("\x00", api.MaxText)
	return []struct {
		v api.Value
		b string
	}{
		{value.Int(math.MinInt64), "\x01\x00\x00\x00\x00\x00\x00\x00\x00"},
		{value.Int(-1), "\x01\x7f\xff\xff\xff\xff\xff\xff\xff"},
		{value.Int(0), "\x01\x80\x00\x00\x00\x00\x00\x00\x00"},
		{value.Int(1), "\x01\x80\x00\x00\x00\x00\x00\x00\x01"},
		{value.Int(0x0102030405060708), "\x01\x81\x02\x03\x04\x05\x06\x07\x08"},
		{value.Int(math.MaxInt64), "\x01\xff\xff\xff\xff\xff\xff\xff\xff"},
		{value.Str(""), "\x02\x00\x01"},
		{value.Str("a"), "\x02a\x00\x01"},
		{value.Str("\x00"), "\x02\x00\xff\x00\x01"},
		{value.Str("\x01"), "\x02\x01\x00\x01"},
		{value.Str("\xff"), "\x02\xff\x00\x01"},
		{value.Str("\x00\x00"), "\x02\x00\xff\x00\xff\x00\x01"},
		{value.Str("\x00\xff\xff"), "\x02\x00\xff\xff\xff\x00\x01"},
		{value.Str("\x00\x01\x01"), "\x02\x00\xff\x01\x01\x00\x01"},
		{value.Str("\x01\x00\xff\x00"), "\x02\x01\x00\xff\xff\x00\xff\x00\x01"},
		{value.Str(zeros), "\x02" + strings.Repeat("\x00\xff", api.MaxText) + "\x00\x01"},
		{value.Bool(false), "\x03\x00"},
		{value.Bool(true), "\x03\x01"},
		{value.Vertex(1), "\x06\x80\x00\x00\x00\x00\x00\x00\x01"},
		{value.Vertex(api.MaxId), "\x06\x80\x01\x00\x00\x00\x00\x00\x00"},
		{value.Edge(258), "\x07\x80\x00\x00\x00\x00\x00\x01\x02"},
		{value.Edge(api.MaxId), "\x07\x80\x01\x00\x00\x00\x00\x00\x00"},
	}
}

// P3.1: the form of each Kind, written out, there and back, whatever stands behind.
func TestKeyAsWritten(t *testing.T) {
	for _, c := range written() {
		if b := key(t, c.v); string(b) != c.b {
			t.Errorf("Key(%s): %v, want %v", value.Text(c.v), b, []byte(c.b))
		}
		for _, tail := range []string{"", "\x00", "\x01", "\xff", "\x00\x01", "\x00\xff", "\x08", "\x04\x00"} {
			wantTake(t, []byte(c.b+tail), c.v, len(c.b), api.OK)
		}
	}
}

// P3.1: the forms stand one behind the other; of no value there are no bytes.
func TestKeyOfSeveral(t *testing.T) {
	var all []api.Value
	var want []byte
	for _, c := range written() {
		all = append(all, c.v)
		want = append(want, c.b...)
		if b := key(t, all...); !bytes.Equal(b, want) {
			t.Fatalf("Key of %d values: %v, want %v", len(all), b, want)
		}
	}
	for _, none := range [][]api.Value{nil, {}} {
		if b := key(t, none...); len(b) != 0 {
			t.Errorf("Key of none: %v", b)
		}
	}
	empty := value.Str("a")
	empty.L = []api.Value{}
	if b := key(t, empty); string(b) != "\x02a\x00\x01" {
		t.Errorf("Key of a string with an empty list: %v", b)
	}
}

func wantNoKey(t *testing.T, e api.Errno, l ...api.Value) {
	t.Helper()
	if b, err := Key(l...); err != e || b != nil {
		t.Errorf("Key of %d values: %v, %d; want %d", len(l), b, err, e)
	}
}

// P3.1: a value that may not be is ErrValue, a list or a map ErrKind, and the first of either tells.
func TestKeyRefuses(t *testing.T) {
	wrong, other := value.Vertex(0), list()
	for _, v := range mayNot() {
		wantNoKey(t, api.ErrValue, v)
		wantNoKey(t, api.ErrValue, value.Int(1), v, value.Int(2))
		wantNoKey(t, api.ErrValue, v, other)
		wantNoKey(t, api.ErrKind, other, v)
	}
	for _, v := range []api.Value{list(), dict(), list(value.Int(1)), risingKeys(2), list(dict())} {
		wantNoKey(t, api.ErrKind, v)
		wantNoKey(t, api.ErrKind, value.Str("a"), v)
		wantNoKey(t, api.ErrKind, v, wrong)
		wantNoKey(t, api.ErrValue, wrong, v)
	}
	wantNoKey(t, api.ErrKind, dict(), list(), wrong)
	wantNoKey(t, api.ErrValue, list(wrong), dict())
	wantNoKey(t, api.ErrValue, append(slices.Clone(rising()), wrong)...)
}

// P3.1: bytes that end too early, wherever.
func TestTakeOfCutForms(t *testing.T) {
	wantTake(t, nil, api.Value{}, 0, api.ErrEnds)
	for _, v := range rising() {
		form := key(t, v)
		for n := range form {
			wantTake(t, form[:n], api.Value{}, 0, api.ErrEnds)
		}
		wantTake(t, form, v, len(form), api.OK)
	}
	unending := "\x02" + strings.Repeat("a", 2*api.MaxText)
	for n := range unending {
		wantTake(t, []byte(unending[:n]), api.Value{}, 0, api.ErrEnds)
	}
}

// P3.1: Kinds that are none, or lists and maps, whatever stands behind them.
func TestTakeOfKinds(t *testing.T) {
	for kind := range 256 {
		one := []byte{byte(kind)}
		e := api.ErrBytes
		if slices.Contains([]int{api.VInt, api.VStr, api.VBool, api.VVertex, api.VEdge}, kind) {
			e = api.ErrEnds
		}
		wantTake(t, one, api.Value{}, 0, e)
		for _, behind := range []string{"\x00", "\x00\x00\x00\x00\x00\x00\x00\x00\x01", "\x01\x03\x01\x00\x01\x00\x00\x00\x00"} {
			if e == api.ErrBytes {
				wantTake(t, append(one, behind...), api.Value{}, 0, e)
			}
		}
	}
}

// P3.1: behind a 0 within a string either 255 or 1 must stand.
func TestTakeOfMarks(t *testing.T) {
	for c := range 256 {
		for _, ahead := range []string{"\x02", "\x02a", "\x02\x00\xff", "\x02\xff\x01"} {
			for _, tail := range []string{"", "\x00", "\x00\x01", "a\x00\x01"} {
				b := []byte(ahead + "\x00" + string([]byte{byte(c)}) + tail)
				switch {
				case c == 1:
					if _, n, e := Take(b); n != len(ahead)+2 || e != api.OK {
						t.Fatalf("Take(%v): %d, %d", b, n, e)
					}
				case c == 255 && !strings.HasSuffix(tail, "\x01"):
					wantTake(t, b, api.Value{}, 0, api.ErrEnds)
				case c == 255:
					if v, n, e := Take(b); n != len(b) || e != api.OK || !strings.Contains(v.S, "\x00") {
						t.Fatalf("Take(%v): %v, %d, %d", b, v, n, e)
					}
				default:
					wantTake(t, b, api.Value{}, 0, api.ErrBytes)
				}
			}
		}
	}
}

// P3.1: forms of values that may not be.
func TestTakeOfWhatMayNotBe(t *testing.T) {
	for n := range 256 {
		e, v, length := api.ErrBytes, api.Value{}, 0
		if n < 2 {
			e, v, length = api.OK, truthOf(int64(n)), 2
		}
		wantTake(t, []byte{api.VBool, byte(n)}, v, length, e)
		wantTake(t, []byte{api.VBool, byte(n), 1}, v, length, e)
	}
	for _, b := range []string{
		"\x06\x80\x00\x00\x00\x00\x00\x00\x00", "\x06\x7f\xff\xff\xff\xff\xff\xff\xff", "\x06\x80\x01\x00\x00\x00\x00\x00\x01",
		"\x06\x00\x00\x00\x00\x00\x00\x00\x01", "\x06\x00\x00\x00\x00\x00\x00\x00\x00", "\x06\xff\xff\xff\xff\xff\xff\xff\xff",
		"\x07\x80\x00\x00\x00\x00\x00\x00\x00", "\x07\x80\x01\x00\x00\x00\x00\x00\x01", "\x07\xff\xff\xff\xff\xff\xff\xff\xff",
		"\x02" + strings.Repeat("a", api.MaxText+1) + "\x00\x01", "\x02" + strings.Repeat("\x00\xff", api.MaxText+1) + "\x00\x01",
	} {
		wantTake(t, []byte(b), api.Value{}, 0, api.ErrBytes)
		wantTake(t, []byte(b+"\x03\x01"), api.Value{}, 0, api.ErrBytes)
	}
}

// plainString is the string with whose form in a key b begins, and how many bytes that has.
func plainString(b []byte) (string, int, api.Errno) {
	at := bytes.IndexByte(b, 0)
	if at < 0 || at == len(b)-1 {
		return "", 0, api.ErrEnds
	}
	if b[at+1] == 1 {
		return string(b[:at]), at + 2, api.OK
	}
	if b[at+1] != 255 {
		return "", 0, api.ErrBytes
	}
	s, n, e := plainString(b[at+2:])
	return string(b[:at+1]) + s, at + 2 + n, e
}

// plainTake is Take as the document says it, by means of the library.
func plainTake(b []byte) (v api.Value, n int, e api.Errno) {
	if len(b) == 0 {
		return v, 0, api.ErrEnds
	}
	v.Kind = int(b[0])
	switch {
	case v.Kind == api.VStr:
		v.S, n, e = plainString(b[1:])
	case v.Kind == api.VBool && len(b) >= 2:
		v.N, n = int64(b[1]), 1
	case v.Kind == api.VInt || v.Kind == api.VVertex || v.Kind == api.VEdge:
		if len(b) < 9 {
			return api.Value{}, 0, api.ErrEnds
		}
		v.N, n = int64(binary.BigEndian.Uint64(b[1:])-1<<63), 8
	case v.Kind == api.VBool:
		e = api.ErrEnds
	default:
		e = api.ErrBytes
	}
	if e == api.OK && value.Check(v) != api.OK {
		e = api.ErrBytes
	}
	if e != api.OK {
		return api.Value{}, 0, e
	}
	return v, 1 + n, api.OK
}

// checkTake holds Take against plainTake, and against P3.5: what is taken has those bytes.
func checkTake(t *testing.T, b []byte) api.Errno {
	t.Helper()
	v, n, e := plainTake(b)
	wantTake(t, b, v, n, e)
	if e == api.OK && !bytes.Equal(key(t, v), b[:n]) {
		t.Fatalf("Take(%v): %v, whose key is %v", b, v, key(t, v))
	}
	return e
}

// P3.1, P3.5: all short bytes of those that mean something, and keys in which bytes were changed.
func TestTakeOfMany(t *testing.T) {
	counts := map[api.Errno]int{}
	eachOf([]byte{0, 1, 2, 3, 4, 7, 255}, 6, func(b []byte) { counts[checkTake(t, b)]++ })
	r := rand.New(rand.NewSource(4))
	signs := []byte{0, 1, 2, 3, 6, 7, 8, 127, 128, 129, 254, 255}
	for _, v := range rising() {
		for range 200 {
			b := append(key(t, v), 0, 1)
			for range 1 + r.Intn(2) {
				b[r.Intn(len(b))] = signs[r.Intn(len(signs))]
			}
			counts[checkTake(t, b[:len(b)-r.Intn(3)])]++
		}
	}
	if counts[api.OK] < 10000 || counts[api.ErrEnds] < 10000 || counts[api.ErrBytes] < 10000 {
		t.Errorf("too few of one answer: %v", counts)
	}
}

// P3.5: Values of Key are the values.
func TestValuesOfKey(t *testing.T) {
	all := rising()
	r := rand.New(rand.NewSource(5))
	lists := [][]api.Value{nil, all}
	for range 2000 {
		var l []api.Value
		for range r.Intn(6) {
			l = append(l, all[r.Intn(len(all))])
		}
		lists = append(lists, l)
	}
	for _, l := range lists {
		if got, e := Values(key(t, l...)); e != api.OK || !slices.EqualFunc(got, l, same) {
			t.Fatalf("Values of Key of %v: %v, %d", l, got, e)
		}
	}
}

// P3.1: bytes that are no key: Take's error where it says no, and no values.
func TestValuesRefuses(t *testing.T) {
	ahead := "\x03\x01\x02a\x00\x01"
	for b, want := range map[string]api.Errno{
		"\x01": api.ErrEnds, "\x02": api.ErrEnds, "\x02a\x00": api.ErrEnds, "\x03": api.ErrEnds, "\x06\x80": api.ErrEnds,
		"\x00": api.ErrBytes, "\x04": api.ErrBytes, "\x05\x00": api.ErrBytes, "\x08": api.ErrBytes, "\xff": api.ErrBytes,
		"\x03\x02": api.ErrBytes, "\x02\x00\x02": api.ErrBytes, "\x06\x80\x00\x00\x00\x00\x00\x00\x00": api.ErrBytes,
		"\x03\x02\x01": api.ErrBytes, "\x03\x01\x08\x01": api.ErrBytes, "\x00\x03\x01": api.ErrBytes,
	} {
		for _, b := range []string{b, ahead + b, ahead + ahead + b} {
			if l, e := Values([]byte(b)); e != want || l != nil {
				t.Errorf("Values(%q): %v, %d; want %d", b, l, e, want)
			}
		}
	}
	for _, none := range [][]byte{nil, {}} {
		if l, e := Values(none); e != api.OK || len(l) != 0 {
			t.Errorf("Values of no bytes: %v, %d", l, e)
		}
	}
}

// P3.1: a key that is cut is one of fewer values, or ends too early.
func TestValuesOfCutKeys(t *testing.T) {
	all := rising()[15:60]
	whole := key(t, all...)
	starts := map[int]int{}
	for n := range all {
		starts[len(key(t, all[:n]...))] = n
	}
	for cut := range whole {
		l, e := Values(whole[:cut])
		if n, is := starts[cut]; is && (e != api.OK || !slices.EqualFunc(l, all[:n], same)) {
			t.Fatalf("Values of %d bytes: %v, %d; want %d values", cut, l, e, n)
		} else if !is && (e != api.ErrEnds || l != nil) {
			t.Fatalf("Values of %d bytes: %v, %d; want ErrEnds", cut, l, e)
		}
	}
}

// P3.4: keys of one value stand as these.
func TestKeysStandAsValues(t *testing.T) {
	l := rising()
	for i, a := range l {
		for j, b := range l {
			want := value.Compare(a, b)
			if i < j && want > 0 {
				t.Fatalf("%v and %v do not rise", a, b)
			}
			if c := bytes.Compare(key(t, a), key(t, b)); c != want {
				t.Fatalf("%v and %v: %d, their keys %d", a, b, want, c)
			}
		}
	}
}

// P3.4: keys of as many values stand as the first ones that are not the same; one of fewer is a beginning.
func TestKeysOfSeveralStandAsValues(t *testing.T) {
	r := rand.New(rand.NewSource(6))
	all := rising()
	near := []api.Value{value.Str(""), value.Str("\x00"), value.Str("\x00\x00"), value.Str("\x00\x01"), value.Str("\x01"), value.Int(1), value.Bool(false)}
	counts := map[int]int{}
	for round := range 60000 {
		pool := all
		if round%2 == 0 {
			pool = near
		}
		a, b := make([]api.Value, 1+r.Intn(5)), []api.Value(nil)
		for i := range a {
			a[i] = pool[r.Intn(len(pool))]
			b = append(b, a[i])
			if r.Intn(3) == 0 {
				b[i] = pool[r.Intn(len(pool))]
			}
		}
		want := slices.CompareFunc(a, b, value.Compare)
		counts[want]++
		if c := bytes.Compare(key(t, a...), key(t, b...)); c != want {
			t.Fatalf("%v and %v: %d, their keys %d", a, b, want, c)
		}
		longer := append(a, pool[r.Intn(len(pool))])
		if !bytes.HasPrefix(key(t, longer...), key(t, a...)) || len(key(t, longer...)) <= len(key(t, a...)) {
			t.Fatalf("the key of %v does not begin with that of %v", longer, a)
		}
	}
	if counts[-1] < 5000 || counts[0] < 5000 || counts[1] < 5000 {
		t.Errorf("too few below, the same or above: %v", counts)
	}
}

// R3: what is answered shares nothing with what is handed in, and leaves it as it was.
func TestKeysAreOwn(t *testing.T) {
	b := key(t, value.Str("ab"), value.Int(7))
	l, _ := Values(b)
	v, _, _ := Take(b)
	clear(b)
	if !same(l[0], value.Str("ab")) || !same(l[1], value.Int(7)) || !same(v, value.Str("ab")) {
		t.Errorf("changed with the bytes: %v, %v", l, v)
	}
	roomy := append(make([]byte, 0, 99), 1, 2, 255)
	after, _ := After(roomy)
	clear(after)
	if string(roomy) != "\x01\x02\xff" {
		t.Errorf("After shares its bytes: %v", roomy)
	}
	values := []api.Value{value.Str("ab"), value.Int(7)}
	clear(key(t, values...))
	if !same(values[0], value.Str("ab")) || !same(values[1], value.Int(7)) {
		t.Errorf("Key changed %v", values)
	}
}
