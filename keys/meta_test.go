package keys

import (
	"math"
	"testing"

	"ramble/api"
)

// P11.1: Meta, written out; numbers below 0 are taken as 0.
func TestMetaAsWritten(t *testing.T) {
	for _, c := range []struct {
		last            int64
		vertices, edges int
		val             string
	}{
		{0, 0, 0, "\x00\x00\x00"}, {300, 2, 1, "\xac\x02\x02\x01"}, {1, 0, 128, "\x01\x00\x80\x01"},
		{far, api.MaxElems, api.MaxElems, "\x80\x80\x80\x80\x80\x80\x40\x80\x10\x80\x10"},
		{-1, 5, 6, "\x00\x05\x06"}, {5, -1, 6, "\x05\x00\x06"}, {5, 6, -1, "\x05\x06\x00"}, {math.MinInt64, math.MinInt, math.MinInt, "\x00\x00\x00"},
		{far + 1, api.MaxElems + 1, api.MaxElems + 1, "\x81\x80\x80\x80\x80\x80\x40\x81\x10\x81\x10"},
		{math.MaxInt64, math.MaxInt, 7, "\xff\xff\xff\xff\xff\xff\xff\xff\x7f\xff\xff\xff\xff\xff\xff\xff\xff\x7f\x07"},
	} {
		x := meta(t, c.last, c.vertices, c.edges)
		wantBytes(t, "Meta's key", x.Key, "\x00")
		wantBytes(t, "Meta's value", x.Val, c.val)
	}
}

func wantMeta(t *testing.T, x api.Entry, last int64, vertices, edges int, err api.Errno) {
	t.Helper()
	a, b, c, e := parseMeta(t, x)
	if a != last || b != vertices || c != edges || e != err {
		t.Fatalf("ParseMeta(%v): %d, %d, %d, %d; want %d, %d, %d, %d", x, a, b, c, e, last, vertices, edges, err)
	}
}

// P11.1: ParseMeta tells what Meta was told, up to the limits; of one more it is ErrKeys.
func TestParseMeta(t *testing.T) {
	for _, last := range []int64{0, 1, 127, 128, 300, far - 1, far, far + 1, math.MaxInt64} {
		for _, vertices := range []int{0, 1, 128, api.MaxElems - 1, api.MaxElems, api.MaxElems + 1, math.MaxInt} {
			for _, edges := range []int{0, 1, 128, api.MaxElems - 1, api.MaxElems, api.MaxElems + 1, math.MaxInt} {
				x := meta(t, last, vertices, edges)
				if last > far || vertices > api.MaxElems || edges > api.MaxElems {
					wantMeta(t, x, 0, 0, 0, api.ErrKeys)
				} else {
					wantMeta(t, x, last, vertices, edges, api.OK)
				}
			}
		}
	}
}

// P11.1: what is no such entry.
func TestParseMetaRefuses(t *testing.T) {
	for _, x := range []api.Entry{
		{}, entry("\x00", ""), entry("", "\x00\x00\x00"), entry("\x00", "\x00"), entry("\x00", "\x00\x00"), entry("\x00", "\x00\x00\x00\x00"),
		entry("\x01", "\x00\x00\x00"), entry("\x06", "\x00\x00\x00"), entry("\x07", "\x00\x00\x00"), entry("\x00\x00", "\x00\x00\x00"),
		entry("\x00", "\x80\x00\x00\x00"), entry("\x00", "\x00\x81\x00\x00"), entry("\x00", "\x00\x00\x82\x00"), entry("\x00", "\x00\x00\x80"),
		entry("\x00", "\xff\xff\xff\xff\xff\xff\xff\xff\xff\x01\x00\x00"), entry("\x00", "\x00\x80\x80\x80\x80\x80\x80\x80\x80\x80\x01\x00"), entry("\x00", "\x80\x80\x80\x80\x80\x80\x80\x80\x80\x80\x01\x00\x00"),
		{Val: []byte{0, 0, 0}}, Vertex(v(1, "a"))[0], Edge(e(1, "a", 1, 1))[0], Edge(e(1, "a", 1, 1))[1],
	} {
		wantMeta(t, x, 0, 0, 0, api.ErrKeys)
	}
}

// P11.1: whatever is changed in an entry, ParseMeta tells what it says, with these bytes again, or that it is none.
func TestParseMetaOfAnything(t *testing.T) {
	for _, x := range []api.Entry{Meta(300, 2, 1), Meta(far, 2048, 2048), Meta(0, 0, 0), Meta(1<<20, 127, 128)} {
		eachChange(rowOf(x), func(x row) {
			key, val := &loose{rest: x.key}, &loose{rest: x.val}
			kind, last, vertices, edges := key.one(), val.seven(), val.seven(), val.seven()
			again := row{"\x00", seven(last) + seven(vertices) + seven(edges)}
			is := kind == 0 && again == x && last <= far && vertices <= 2048 && edges <= 2048
			a, b, c, e := ParseMeta(entry(x.key, x.val))
			if is && (e != api.OK || uint64(a) != last || uint64(b) != vertices || uint64(c) != edges) || !is && (e != api.ErrKeys || a != 0 || b != 0 || c != 0) {
				t.Fatalf("ParseMeta(%v): %d, %d, %d, %d; it is one: %v", x, a, b, c, e, is)
			}
		})
	}
}
