package keys

import (
	"strings"
	"testing"

	"ramble/api"
	"ramble/codec"
	"ramble/value"
)

// P11.1: signs, written out.
func TestSignAsWritten(t *testing.T) {
	for _, c := range []struct {
		v    api.Value
		want string
	}{
		{value.Int(-1), "\x09\x01\x7f\xff\xff\xff\xff\xff\xff\xff"},
		{value.Int(300), "\x09\x01\x80\x00\x00\x00\x00\x00\x01\x2c"},
		{value.Str(""), "\x03\x02\x00\x01"},
		{value.Str("it's"), "\x07\x02it's\x00\x01"},
		{value.Str("a\x00"), "\x06\x02a\x00\xff\x00\x01"},
		{value.Bool(true), "\x02\x03\x01"},
		{value.Bool(false), "\x02\x03\x00"},
		{value.Vertex(1), "\x09\x06\x80\x00\x00\x00\x00\x00\x00\x01"},
		{value.Edge(far), "\x09\x07\x80\x01\x00\x00\x00\x00\x00\x00"},
		{list(), "\x02\x04\x00"},
		{dict(), "\x02\x05\x00"},
		{list(value.Int(300)), "\x05\x04\x01\x01\xd8\x04"},
		{dict(value.Str("a"), list(value.Bool(true))), "\x09\x05\x02\x02\x01a\x04\x01\x03\x01"},
	} {
		wantBytes(t, "Sign of "+value.Text(c.v), sign(t, c.v), c.want)
	}
}

// P11.1: of more than MaxSign bytes the first MaxSign stand there, of as many all, of one fewer these.
func TestSignAtItsLimit(t *testing.T) {
	a := func(often int) string { return strings.Repeat("a", often) }
	for _, c := range []struct {
		v    api.Value
		want string
	}{
		{str("a", 36), "\x27\x02" + a(36) + "\x00\x01"},
		{str("a", 37), "\x28\x02" + a(37) + "\x00\x01"},
		{str("a", 38), "\x28\x02" + a(38) + "\x00"},
		{str("a", 39), "\x28\x02" + a(39)},
		{str("a", 40), "\x28\x02" + a(39)},
		{str("a", 128), "\x28\x02" + a(39)},
		{str("\x00", 18), "\x27\x02" + strings.Repeat("\x00\xff", 18) + "\x00\x01"},
		{str("\x00", 19), "\x28\x02" + strings.Repeat("\x00\xff", 19) + "\x00"},
		{str("\x00", 20), "\x28\x02" + strings.Repeat("\x00\xff", 19) + "\x00"},
		{list(str("a", 35)), "\x27\x04\x01\x02\x23" + a(35)},
		{list(str("a", 36)), "\x28\x04\x01\x02\x24" + a(36)},
		{list(str("a", 37)), "\x28\x04\x01\x02\x25" + a(36)},
		{dict(value.Int(1), str("a", 33)), "\x27\x05\x02\x01\x02\x02\x21" + a(33)},
		{dict(value.Int(1), str("a", 34)), "\x28\x05\x02\x01\x02\x02\x22" + a(34)},
		{dict(value.Int(1), str("a", 35)), "\x28\x05\x02\x01\x02\x02\x23" + a(34)},
		{list(many(value.Bool(true), 19)...), "\x28\x04\x13" + strings.Repeat("\x03\x01", 19)},
		{list(many(value.Bool(true), api.MaxList)...), "\x28\x04\x80\x02" + strings.Repeat("\x03\x01", 18) + "\x03"},
	} {
		wantBytes(t, "Sign of "+value.Text(c.v), sign(t, c.v), c.want)
	}
}

// P11.1: a value that may not be has no bytes.
func TestSignOfWhatMayNotBe(t *testing.T) {
	for _, v := range mayNot() {
		wantBytes(t, "Sign of "+value.Text(v), sign(t, v), "\x00")
	}
}

// P11.1: signs, by the forms.
func TestSignByForms(t *testing.T) {
	for _, v := range may() {
		got := sign(t, v)
		wantBytes(t, "Sign of "+value.Text(v), got, signOf(v))
		if len(got) < 3 || len(got) > 1+api.MaxSign || int(got[0]) != len(got)-1 {
			t.Fatalf("Sign of %s: %v", value.Text(v), got)
		}
	}
}

// cutKeys are values that rise, from ahead of the least of each kind to behind the greatest, and such as begin alike.
func cutKeys() []api.Value {
	most := value.Edge(far)
	return []api.Value{
		value.Int(-1 << 63), value.Int(-1<<63 + 1), value.Int(-8193), value.Int(-65), value.Int(-64), value.Int(-1), value.Int(0), value.Int(63), value.Int(64), value.Int(1 << 40), value.Int(1<<63 - 2), value.Int(1<<63 - 1),
		value.Str(""), value.Str("a"), value.Str("ab"), str("\xff", 1), str("\xff", 127), value.Str(strings.Repeat("\xff", 127) + "\xfe"), str("\xff", 128),
		value.Bool(false), value.Bool(true),
		list(), list(value.Int(5)), list(value.Int(5), value.Int(5)), list(most), list(many(most, 255)...), list(many(most, 256)...),
		dict(), dict(value.Int(1), value.Int(1)), dict(value.Int(1), most), dict(value.Edge(far-1), most, most, most), dict(most, value.Int(5)), dict(most, most),
		value.Vertex(1), value.Vertex(128), value.Vertex(far - 1), value.Vertex(far),
		value.Edge(1), value.Edge(127), value.Edge(128), value.Edge(1 << 42), value.Edge(far - 256), value.Edge(far - 255), value.Edge(far - 2), value.Edge(far - 1), most,
	}
}

// cutMaps are maps that may be: of each two of the keys that rise, alone and with others behind them.
func cutMaps() []api.Value {
	keys := cutKeys()
	var l []api.Value
	for i, a := range keys {
		for j, b := range keys[i+1:] {
			l = append(l, dict(a, value.Bool(true), b, value.Edge(far)))
			if i+j+2 < len(keys) {
				l = append(l, dict(a, value.Int(-300), b, value.Vertex(far), keys[i+j+2], list()))
			}
		}
	}
	return append(l, lastEdges(1), lastEdges(2), lastEdges(3), lastEdges(64), lastEdges(65), lastEdges(128), lastEdges(255), lastEdges(256))
}

// lastEdges is the map of the greatest keys of all, as many as asked.
func lastEdges(often int) api.Value {
	var l []api.Value
	for i := range often {
		l = append(l, value.Edge(int64(far-often+1+i)), value.Edge(far))
	}
	return dict(l...)
}

// cut are lists in which v stands, so that it is cut off at each of the first places.
func cut(v api.Value, places int) []api.Value {
	var l []api.Value
	for n := range places {
		pad := str("a", api.MaxSign-4-n)
		l = append(l, list(pad, v, value.Int(1)))
	}
	return l
}

// wantElem holds Elem of an entry by a property whose value has that sign.
func wantElem(t *testing.T, sign string, err api.Errno) {
	t.Helper()
	x := entry("\x06\x06\x02age\x00\x01"+sign+formOf(value.Vertex(7)), "")
	want := value.Vertex(7)
	if err != api.OK {
		want = api.Value{}
	}
	got, other, e := Elem(x)
	if e != err || other != 0 || !same(got, want) {
		t.Fatalf("Elem with the sign %q: %v, %d, %d; want the error %d", sign, got, other, e, err)
	}
}

// P11.2: whatever value a sign is of, Elem takes it, wherever the value's form is cut off.
func TestElemTakesSigns(t *testing.T) {
	for _, x := range append(may(), mayNot()...) {
		wantElem(t, signOf(x), api.OK)
	}
	for _, x := range append(cutMaps(), cutKeys()...) {
		if value.Check(x) != api.OK {
			t.Fatalf("%s may not be", value.Text(x))
		}
		wantElem(t, signOf(x), api.OK)
		for _, y := range cut(x, 36) {
			wantElem(t, signOf(y), api.OK)
		}
	}
	for _, x := range []api.Value{list(), dict(), value.Int(5), value.Edge(far)} {
		for lists := range api.MaxDeep - 1 {
			for _, y := range cut(within(x, lists), 36) {
				if value.Check(y) == api.OK {
					wantElem(t, signOf(y), api.OK)
				}
			}
		}
	}
}

// P11.2: where bytes that are changed are a value's again, their first ones are its sign's.
func TestElemTakesSignsOfAnything(t *testing.T) {
	for _, x := range append(may(), cutMaps()...) {
		all := bytesOf(list(value.Int(1), x))
		if value.Check(list(x)) != api.OK || len(all) <= api.MaxSign || len(all) > 400 {
			continue
		}
		for i := range api.MaxSign {
			for _, c := range []byte{0, 1, 2, 3, 4, 5, 6, 7, 63, 64, 127, 128, 129, 254, 255} {
				changed := []byte(all)
				changed[i] = c
				if v, e := codec.Parse(changed); e == api.OK && isNested(v.Kind) {
					wantElem(t, signed(string(changed[:api.MaxSign])), api.OK)
				}
			}
		}
	}
}

// signed is bytes with how many they are ahead of them.
func signed(b string) string { return string([]byte{byte(len(b))}) + b }

// P11.2: bytes that are no value's sign are none of an entry's.
func TestElemRefusesSigns(t *testing.T) {
	for _, b := range []string{
		"\x00", "\x08", "\xff", "a", "\x01", "\x02", "\x03", "\x04", "\x05", "\x06", "\x07",
		"\x01\x80\x00\x00\x00\x00\x00\x00", "\x01\x80\x00\x00\x00\x00\x00\x00\x00\x00", "\x02a", "\x02a\x00", "\x02a\x00\x02", "\x02a\x00\x01\x00", "\x03\x02", "\x03\x01\x01",
		"\x06\x80\x00\x00\x00\x00\x00\x00\x00", "\x06\x7f\xff\xff\xff\xff\xff\xff\xff", "\x07\x80\x01\x00\x00\x00\x00\x00\x01",
		"\x04\x01", "\x04\x01\x01", "\x04\x01\x01\x80", "\x04\x01\x01\x80\x00", "\x04\x00\x00", "\x04\x80", "\x04\x80\x00", "\x04\x01\x02\x02a", "\x04\x01\x03\x02", "\x04\x01\x06\x00", "\x04\x01\x08",
		"\x05\x01", "\x05\x01\x01\x02", "\x05\x02\x01\x02", "\x05\x04\x01\x02\x03\x01\x01\x02\x03\x01", "\x05\x04\x01\x04\x03\x01\x01\x02\x03\x01",
		strings.Repeat("\x04\x01", 8) + "\x03\x01", strings.Repeat("\x04\x01", 8) + "\x04\x00",
	} {
		wantElem(t, signed(b), api.ErrKeys)
	}
	a := func(often int) string { return strings.Repeat("a", often) }
	for _, b := range []string{
		"\x02" + a(38), "\x02" + a(40), "\x02" + a(37) + "\x00", "\x02" + a(38) + "\x00\x01", "\x02" + a(35) + "\x00\x01a\x00", "\x02" + a(36) + "\x00\x02a", "\x02" + a(36) + "\x00\x01a", "\x02" + a(37) + "\x00\x00", "\x01" + a(39), "\x06" + a(39), "\x03\x01" + a(38),
		"\x04\x01\x02\x24" + a(35), "\x04\x01\x02\x25" + a(37), "\x04\x01\x02\x24" + a(37), "\x04\x01\x02\x23" + a(36), a(40), a(41), a(200),
		"\x04\x13" + strings.Repeat("\x03\x01", 18), "\x04\x80\x02" + strings.Repeat("\x03\x01", 19), "\x04\x12" + strings.Repeat("\x03\x01", 19),
	} {
		wantElem(t, signed(b), api.ErrKeys)
	}
	wantElem(t, "", api.ErrKeys)
	wantElem(t, "\xff", api.ErrKeys)
	wantElem(t, "\x01", api.ErrKeys)
}

// atEnd is a list's first MaxSign bytes that end so; in it stand a string, and behind it what ends it, of how many values soever.
func atEnd(count byte, end string) string {
	pad := api.MaxSign - 4 - len(end)
	return signed("\x04" + string([]byte{count}) + "\x02" + string([]byte{byte(pad)}) + strings.Repeat("a", pad) + end)
}

// P11.2: bytes that are as long as can be, with which no list's or map's bytes begin that may be.
func TestElemRefusesSignsCutOff(t *testing.T) {
	for _, c := range []struct {
		end  string
		want api.Errno
	}{
		{"", api.OK}, {"\x01", api.OK}, {"\x02", api.OK}, {"\x03", api.OK}, {"\x04", api.OK}, {"\x05", api.OK}, {"\x06", api.OK}, {"\x07", api.OK},
		{"\x00", api.ErrKeys}, {"\x08", api.ErrKeys}, {"\xff", api.ErrKeys},
		// Whole numbers, up to the greatest that have room.
		{"\x01\x80", api.OK}, {"\x01\xff\xff\xff\xff\xff\xff\xff\xff\xff", api.OK}, {"\x01\x80\x80\x80\x80\x80\x80\x80\x80\x80", api.OK},
		{"\x01\xff\xff\xff\xff\xff\xff\xff\xff\xff\x01", api.OK}, {"\x01\xff\xff\xff\xff\xff\xff\xff\xff\xff\x02", api.ErrKeys}, {"\x01\xff\xff\xff\xff\xff\xff\xff\xff\xff\x81", api.ErrKeys}, {"\x01\x80\x00", api.ErrKeys}, {"\x01\x81\x80\x00", api.ErrKeys},
		// Strings.
		{"\x02\x80", api.OK}, {"\x02\x80\x01", api.OK}, {"\x02\x80\x01a", api.OK}, {"\x02\x7f", api.OK}, {"\x02\x81", api.ErrKeys}, {"\x02\xff", api.ErrKeys}, {"\x02\x80\x02", api.ErrKeys}, {"\x02\x81\x01", api.ErrKeys}, {"\x02\x80\x80", api.ErrKeys},
		// Truths.
		{"\x03\x00\x03", api.OK}, {"\x03\x02\x03", api.ErrKeys}, {"\x03\xff", api.ErrKeys},
		// Ids, up to the greatest.
		{"\x06\x00\x03", api.ErrKeys}, {"\x06\x80", api.OK}, {"\x06\xff\xff\xff\xff\xff\xff", api.OK}, {"\x06\x80\x80\x80\x80\x80\x80", api.OK}, {"\x06\x80\x80\x80\x80\x80\x80\x40\x03", api.OK},
		{"\x07\x81\x80\x80\x80\x80\x80\x40\x03", api.ErrKeys}, {"\x07\x80\x80\x80\x80\x80\x80\x41\x03", api.ErrKeys}, {"\x07\x80\x80\x80\x80\x80\x80\x80", api.ErrKeys}, {"\x07\x80\x80\x80\x80\x80\x80\xc0", api.ErrKeys}, {"\x07\xff\xff\xff\xff\xff\xff\x3f\x03", api.OK},
		// Lists within.
		{"\x04\x80", api.OK}, {"\x04\xff", api.OK}, {"\x04\x80\x02", api.OK}, {"\x04\xff\x01", api.OK}, {"\x04\x81\x02", api.ErrKeys}, {"\x04\x80\x03", api.ErrKeys}, {"\x04\x80\x80", api.ErrKeys}, {"\x04\x80\x00", api.ErrKeys},
		// Maps within.
		{"\x05\x80", api.OK}, {"\x05\xfe", api.OK}, {"\x05\x81", api.ErrKeys}, {"\x05\xff", api.ErrKeys}, {"\x05\x80\x04", api.OK}, {"\x05\xfe\x03", api.OK}, {"\x05\x82\x04", api.ErrKeys}, {"\x05\x80\x05", api.ErrKeys}, {"\x05\x03", api.ErrKeys}, {"\x05\x01", api.ErrKeys}, {"\x05\x80\x80", api.ErrKeys},
		// How deep they may stand: six more.
		{strings.Repeat("\x04\x01", 6), api.OK}, {strings.Repeat("\x04\x01", 6) + "\x04", api.OK}, {strings.Repeat("\x04\x01", 6) + "\x04\x00", api.OK}, {strings.Repeat("\x04\x01", 6) + "\x04\x01", api.ErrKeys}, {strings.Repeat("\x04\x01", 6) + "\x04\x80", api.ErrKeys},
		{strings.Repeat("\x04\x01", 6) + "\x05", api.OK}, {strings.Repeat("\x04\x01", 6) + "\x05\x00", api.OK}, {strings.Repeat("\x04\x01", 6) + "\x05\x02", api.ErrKeys}, {strings.Repeat("\x04\x01", 6) + "\x05\x80", api.ErrKeys},
		{strings.Repeat("\x04\x01", 5) + "\x05\x02\x04", api.OK}, {strings.Repeat("\x04\x01", 5) + "\x05\x02\x05", api.OK}, {strings.Repeat("\x04\x01", 5) + "\x05\x02\x04\x01", api.ErrKeys}, {strings.Repeat("\x04\x01", 5) + "\x05\x02\x05\x02", api.ErrKeys},
		{strings.Repeat("\x04\x01", 5) + "\x05\x02\x01\x00\x04", api.OK}, {strings.Repeat("\x04\x01", 5) + "\x05\x02\x01\x00\x05", api.OK}, {strings.Repeat("\x04\x01", 5) + "\x05\x02\x01\x00\x04\x01", api.ErrKeys},
		// Keys that must rise: numbers,
		{"\x05\x04\x01\x0a\x03\x01\x01", api.OK}, {"\x05\x04\x01\x0a\x03\x01\x01\x80", api.OK}, {"\x05\x04\x01\x0a\x03\x01\x01\x81", api.ErrKeys}, {"\x05\x04\x01\x0a\x03\x01\x01\x0a", api.ErrKeys}, {"\x05\x04\x01\x0a\x03\x01\x01\x0c", api.OK},
		{"\x05\x04\x01\x81\x01\x03\x01\x01\x81", api.ErrKeys}, {"\x05\x04\x01\x81\x01\x03\x01\x01\x80", api.OK}, {"\x05\x04\x01\x81\x02\x03\x01\x01\x81", api.OK}, {"\x05\x04\x01\xff\x01\x03\x01\x01\xfd", api.OK},
		// strings,
		{"\x05\x04\x02\x01b\x03\x01\x02", api.OK}, {"\x05\x04\x02\x01b\x03\x01\x02\x01", api.OK}, {"\x05\x04\x02\x01b\x03\x01\x02\x00", api.ErrKeys}, {"\x05\x04\x02\x01b\x03\x01\x02\x03a", api.ErrKeys}, {"\x05\x04\x02\x01b\x03\x01\x02\x03b", api.OK}, {"\x05\x04\x02\x01b\x03\x01\x01", api.ErrKeys},
		{"\x05\x04\x02\x01\xff\x03\x01\x02\x01", api.ErrKeys}, {"\x05\x04\x02\x01\xff\x03\x01\x02\x02", api.OK},
		// truths,
		{"\x05\x04\x03\x00\x03\x01\x03", api.OK}, {"\x05\x04\x03\x01\x03\x01\x03", api.ErrKeys}, {"\x05\x04\x03\x01\x03\x01\x02", api.ErrKeys},
		// lists and maps,
		{"\x05\x04\x04\x01\x07\x01\x03\x01\x04", api.OK}, {"\x05\x04\x04\x01\x07\x01\x03\x01\x04\x00", api.ErrKeys}, {"\x05\x04\x04\x01\x07\x01\x03\x01\x04\x01\x06", api.ErrKeys}, {"\x05\x04\x04\x01\x07\x01\x03\x01\x04\x01\x07", api.OK}, {"\x05\x04\x04\x01\x07\x02\x03\x01\x04\x03\x07\x01", api.ErrKeys},
		{"\x05\x04\x05\x02\x07\x01\x03\x01\x03\x01\x05", api.OK}, {"\x05\x04\x05\x02\x07\x01\x03\x01\x03\x01\x05\x02\x06", api.ErrKeys}, {"\x05\x04\x05\x02\x07\x01\x03\x00\x03\x01\x05\x02\x07\x01\x03", api.OK}, {"\x05\x04\x05\x02\x07\x01\x03\x01\x03\x01\x05\x02\x07\x01\x03", api.ErrKeys}, {"\x05\x04\x05\x02\x07\x01\x04\x00\x03\x01\x05\x02\x07\x01\x03", api.ErrKeys},
		// and edges, of which so many must follow.
		{"\x05\x04\x07\x80\x80\x80\x80\x80\x80\x40", api.ErrKeys}, {"\x05\x02\x07\x80\x80\x80\x80\x80\x80\x40", api.OK}, {"\x05\x04\x07\xff\xff\xff\xff\xff\xff\x3f", api.OK}, {"\x05\x06\x07\xff\xff\xff\xff\xff\xff\x3f", api.ErrKeys}, {"\x05\x06\x07\xfe\xff\xff\xff\xff\xff\x3f\x03\x01", api.OK},
		{"\x05\x02\x07\x80\x80\x80\x80\x80\x80", api.OK}, {"\x05\x04\x07\xff\xff\xff\xff\xff\xff\x3f\x03\x01\x07\x80\x80\x80\x80\x80\x80", api.OK}, {"\x05\x04\x07\xff\xff\xff\xff\xff\xff\x3f\x03\x01\x07\x81\x80\x80\x80\x80\x80", api.ErrKeys}, {"\x05\x06\x07\xfe\xff\xff\xff\xff\xff\x3f\x03\x01\x07\x80\x80\x80\x80\x80\x80", api.ErrKeys}, {"\x05\x06\x07\xfe\xff\xff\xff\xff\xff\x3f\x03\x01\x07\xff\xff\xff\xff\xff\xff", api.OK},
	} {
		wantElem(t, atEnd(100, c.end), c.want)
	}
}
