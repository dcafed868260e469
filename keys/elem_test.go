package keys

import (
	"fmt"
	"testing"

	"ramble/api"
	"ramble/value"
)

func wantElemOf(t *testing.T, x api.Entry, want api.Value, other int64, err api.Errno) {
	t.Helper()
	got, end, e := elem(t, x)
	if e != err || end != other || !same(got, want) || e != api.OK && !zero(got) {
		t.Fatalf("Elem(%q): %v, %d, %d; want %v, %d, %d", x, got, end, e, want, other, err)
	}
}

func wantNoElem(t *testing.T, x api.Entry) {
	t.Helper()
	wantElemOf(t, x, api.Value{}, 0, api.ErrKeys)
}

// P11.2: the elements of entries, and the vertices at the other ends, written out.
func TestElemAsWritten(t *testing.T) {
	const seven, nine = "\x06\x80\x00\x00\x00\x00\x00\x00\x07", "\x07\x80\x00\x00\x00\x00\x00\x00\x09"
	wantElemOf(t, entry("\x03"+seven+"\x02knows\x00\x01"+nine, "\xac\x02"), value.Edge(9), 300, api.OK)
	wantElemOf(t, entry("\x04"+seven+"\x02knows\x00\x01"+nine, "\x07"), value.Edge(9), 7, api.OK)
	wantElemOf(t, entry("\x05\x06\x02person\x00\x01"+seven, ""), value.Vertex(7), 0, api.OK)
	wantElemOf(t, entry("\x05\x07\x02knows\x00\x01"+nine, ""), value.Edge(9), 0, api.OK)
	wantElemOf(t, entry("\x06\x06\x02age\x00\x01\x02\x03\x01"+seven, ""), value.Vertex(7), 0, api.OK)
	wantElemOf(t, entry("\x06\x07\x02age\x00\x01\x02\x03\x01"+nine, ""), value.Edge(9), 0, api.OK)
	// A value that may not be has a sign of no bytes.
	wantElemOf(t, entry("\x06\x06\x02age\x00\x01\x00"+seven, ""), value.Vertex(7), 0, api.OK)
	wantElemOf(t, api.Entry{Key: []byte("\x05\x06\x02a\x00\x01" + seven), Val: []byte{}}, value.Vertex(7), 0, api.OK)
}

// P11.2: what is none of these entries, written out.
func TestElemRefuses(t *testing.T) {
	const seven, nine, name = "\x06\x80\x00\x00\x00\x00\x00\x00\x07", "\x07\x80\x00\x00\x00\x00\x00\x00\x09", "\x02a\x00\x01"
	for _, kind := range []string{"\x03", "\x04"} {
		for _, val := range []string{"", "\x00", "\x07\x00", "\x87\x00", "\x87", "\x81\x80\x80\x80\x80\x80\x40", "\xff\xff\xff\xff\xff\xff\xff\xff\xff\x01", "\xff\xff\xff\xff\xff\xff\xff\xff\xff\x02"} {
			wantNoElem(t, entry(kind+seven+name+nine, val))
		}
		for _, key := range []string{
			"", seven, seven + name, name + nine, seven + nine, nine + name + nine, seven + name + seven, nine + name + seven, seven + name + nine + nine, seven + name + name + nine, seven + "\x02\x00\x01" + nine, seven + "\x029\x00\x01" + nine,
			seven + formOf(value.Str(long("a", 25))) + nine, seven + "\x03\x01" + nine, seven + "\x02a\x00" + nine, seven + "\x02a\x00\xff" + nine, seven + "\x02a\x00\x02" + nine, "\x06" + name + nine,
			"\x06\x80\x00\x00\x00\x00\x00\x00\x00" + name + nine, "\x06\x80\x01\x00\x00\x00\x00\x00\x01" + name + nine, seven + name + "\x07\x80\x00\x00\x00\x00\x00\x00\x00", seven + name + "\x07\x80\x01\x00\x00\x00\x00\x00\x01", seven + name + "\x07\x7f\x00\x00\x00\x00\x00\x00\x09",
		} {
			wantNoElem(t, entry(kind+key, "\x07"))
		}
	}
	for _, sign := range []string{"", "\x02\x03\x01"} {
		kind := "\x05"
		if sign != "" {
			kind = "\x06"
		}
		for _, key := range []string{
			"", "\x06", "\x06" + name, "\x06" + name + sign, "\x06" + sign + seven, "\x06" + name + sign + nine, "\x07" + name + sign + seven, "\x05" + name + sign + seven, "\x00" + name + sign + seven, "\x01" + name + sign + "\x01" + seven[1:], "\x02" + name + sign + name, "\xff" + name + sign + seven,
			name + sign + seven, "\x06\x02\x00\x01" + sign + seven, "\x06\x029\x00\x01" + sign + seven, "\x06" + formOf(value.Str(long("a", 25))) + sign + seven, "\x06\x03\x01" + sign + seven, "\x06" + seven + sign + seven, "\x06" + name + sign + seven + "\x00", "\x06" + name + sign + seven + seven, "\x06" + name + sign + sign + seven + seven,
			"\x06" + name + sign + "\x06\x80\x00\x00\x00\x00\x00\x00\x00", "\x06" + name + sign + "\x06\x80\x01\x00\x00\x00\x00\x00\x01", "\x07" + name + sign + "\x07\x80\x00\x00\x00\x00\x00\x00\x00", "\x07" + name + sign + "\x07\x7f\x00\x00\x00\x00\x00\x00\x09",
		} {
			wantNoElem(t, entry(kind+key, ""))
		}
		for _, val := range []string{"\x00", "\x07", "a"} {
			wantNoElem(t, entry(kind+"\x06"+name+sign+seven, val))
		}
	}
	for _, kind := range []string{"\x00", "\x01", "\x02", "\x07", "\xff"} {
		wantNoElem(t, entry(kind, ""))
		wantNoElem(t, entry(kind+seven, ""))
		wantNoElem(t, entry(kind+seven+name+nine, "\x07"))
		wantNoElem(t, entry(kind+"\x06"+name+seven, ""))
		wantNoElem(t, entry(kind+"\x06"+name+"\x02\x03\x01"+seven, ""))
	}
	wantNoElem(t, api.Entry{})
	wantNoElem(t, Meta(1, 1, 0))
}

// P11.2: entries of elements whose labels or names are none are none; those of names that are names are, whatever the values are.
func TestElemOfOdd(t *testing.T) {
	for _, x := range oddVertices() {
		for i, y := range Vertex(x) {
			_, _, is := elemOf(rowOf(y))
			if name := i > 0 && value.Name(nameAt(i-1, x.Label, x.Props)); is != name {
				t.Fatalf("the model takes the entry %d of %v: %v", i, x, is)
			}
			wantModelElem(t, y)
		}
	}
	for _, x := range oddLinks() {
		for _, y := range Edge(x) {
			wantModelElem(t, y)
		}
	}
}

// nameAt is the label, or a property's name, by which an entry stands.
func nameAt(i int, label string, props []api.Prop) string {
	if i == 0 {
		return label
	}
	return props[i-1].Name
}

func wantModelElem(t *testing.T, x api.Entry) {
	t.Helper()
	want, other, is := elemOf(rowOf(x))
	if is {
		wantElemOf(t, x, want, other, api.OK)
	} else {
		wantNoElem(t, x)
	}
}

// P11.2: whatever is changed in an entry, it is one of an element, or it is none.
func TestElemOfAnything(t *testing.T) {
	for i, props := range changedProps() {
		label, id := names()[i], int64(1)<<(8*i)
		for _, x := range append(Edge(e(id, label, 7, far, props...)), Vertex(v(id, label))...) {
			eachChange(rowOf(x), func(x row) {
				want, other, is := elemOf(x)
				err := api.OK
				if !is {
					want, other, err = api.Value{}, 0, api.ErrKeys
				}
				got, end, e := Elem(entry(x.key, x.val))
				if e != err || end != other || !same(got, want) {
					t.Fatalf("Elem(%q): %v, %d, %d; want %v, %d, %d", x, got, end, e, want, other, err)
				}
			})
		}
	}
}

// P11.2: each entry, handed to what reads another kind, is none.
func TestEntriesApart(t *testing.T) {
	l := append(Vertex(v(7, "person", p("a", value.Int(1)))), Edge(e(9, "knows", 7, 8, p("a", value.Int(1))))...)
	l = append(l, Meta(9, 1, 1))
	for i, x := range l {
		var got []bool
		_, err := ParseV(x)
		got = append(got, err == api.OK)
		_, err = ParseE(x)
		got = append(got, err == api.OK)
		_, _, err = Elem(x)
		got = append(got, err == api.OK)
		_, _, _, err = ParseMeta(x)
		got = append(got, err == api.OK)
		want := []bool{i == 0, i == 3, i == 1 || i == 2 || i > 3 && i < 8, i == 8}
		if fmt.Sprint(got) != fmt.Sprint(want) {
			t.Errorf("the entry %d is read as %v, want %v", i, got, want)
		}
	}
}
