package btree

import (
	"encoding/binary"
	"maps"
	"strings"
	"testing"

	"ramble/api"
)

// chunk is a page of a value, as the tree writes it: the next page's number, and bytes.
func chunk(next uint64, length int) string {
	return string(binary.AppendUvarint(nil, next)) + some(length, length)
}

// overOf is a leaf of keys, the last of which has its value in other pages.
func overOf(over, length int, keys ...string) api.Node {
	n := leafOf(keys...)
	n.Cells[len(keys)-1].Over, n.Cells[len(keys)-1].Len = over, length
	return n
}

// grown is a tree of three levels, with a value in two pages.
func grown() sheets {
	return sheets{
		1: innerOf([]int{2, 3}, "m"),
		2: innerOf([]int{4, 5}, "e"),
		3: innerOf([]int{6, 7, 8}, "p", "t"),
		4: leafOf("a", "b"),
		5: leafOf("e", "f"),
		6: leafOf("n", "o"), // the key between may be below the first one
		7: overOf(9, 500, "p", "q"),
		8: leafOf("x"),
		9: chunk(10, 440), 10: chunk(0, 60),
	}
}

// P9.3: what is a tree is told by its keys and pages, and is asked.
func TestCheckOfTrees(t *testing.T) {
	for _, c := range []struct {
		what        string
		change      sheets
		root        int64
		keys, pages int
	}{
		{"the whole", nil, 1, 9, 10},
		{"another root", nil, 3, 5, 6},
		{"a leaf", nil, 7, 2, 3},
		{"nothing", nil, 0, 0, 0},
		{"keys just inside the edges", sheets{4: leafOf("\x00", "d\xff\xff"), 5: leafOf("e", "l\xff"), 6: leafOf("m", "o\xff")}, 1, 9, 10},
		{"a value as long as may be", sheets{8: overOf(11, api.MaxVal, "x"),
			11: chunk(12, 440), 12: chunk(13, 440), 13: chunk(14, 440), 14: chunk(15, 440), 15: chunk(16, 440), 16: chunk(17, 440), 17: chunk(18, 440),
			18: chunk(19, 440), 19: chunk(20, 440), 20: chunk(0, 136)}, 1, 9, 20},
	} {
		l := grown()
		maps.Copy(l, c.change)
		p, x := crafted(t, 64, l, c.root)
		keys, pages, e := x.Check()
		if keys != c.keys || pages != c.pages || e != api.OK {
			t.Errorf("%s: %d keys, %d pages, %d; want %d, %d", c.what, keys, pages, e, c.keys, c.pages)
		}
		prod(t, c.what, p, x)
	}
}

// noTrees are changes by which the grown tree is none any more.
var noTrees = map[string]sheets{
	"the root is no node":                          {1: "\x02\x01"},
	"an inner node is no node":                     {2: ""},
	"a leaf is no node":                            {5: "\x01\x01\x00\x00\x00"},
	"a leaf has keys that do not rise":             {4: "\x01\x02\x01b\x00\x00\x01a\x00\x00"},
	"a leaf has a key twice":                       {4: "\x01\x02\x01a\x00\x00\x01a\x00\x00"},
	"an inner node has keys that do not rise":      {3: "\x02\x02\x01t\x01p\x06\x07\x08"},
	"a kid is not taken":                           {2: innerOf([]int{4, 30}, "e")},
	"a kid is beyond all pages":                    {2: innerOf([]int{4, 2000}, "e")},
	"a key in a leaf is at the key behind":         {4: leafOf("a", "e")},
	"a key in a leaf is above the key behind":      {4: leafOf("a", "b", "z")},
	"a key in a leaf is below the key ahead":       {5: leafOf("d", "f")},
	"a key in a leaf is below that of the root":    {6: leafOf("l", "o")},
	"a key in a leaf is at that of the root":       {5: leafOf("e", "m")},
	"the last leaf is below the key ahead":         {8: leafOf("s")},
	"an inner node's key is above that of the top": {2: innerOf([]int{4, 5}, "z")},
	"an inner node's key is below that of the top": {3: innerOf([]int{6, 7, 8}, "c", "t")},
	"an inner node's key is that of the top":       {3: innerOf([]int{6, 7, 8}, "m", "t"), 6: leafOf("m")},
	"the leaves are the wrong way round":           {2: innerOf([]int{5, 4}, "e")},
	"the inner nodes are the wrong way round":      {1: innerOf([]int{3, 2}, "m")},
	"a leaf is empty":                              {5: leafOf()},
	"the first leaf is empty":                      {4: leafOf()},
	"the last leaf is empty":                       {8: leafOf()},
	"an inner node has one kid":                    {2: innerOf([]int{4})},
	"the root has one kid":                         {1: innerOf([]int{2})},
	"a leaf is higher than the others":             {1: innerOf([]int{2, 8}, "m")},
	"a leaf is higher than those behind":           {1: innerOf([]int{4, 3}, "m")},
	"a leaf is deeper than the others":             {3: innerOf([]int{6, 7, 11}, "p", "t"), 11: innerOf([]int{12, 8}, "v"), 12: leafOf("t", "u")},
	"a leaf stands twice":                          {2: innerOf([]int{4, 4}, "e")},
	"a leaf stands under two nodes":                {2: innerOf([]int{4, 7}, "e")},
	"an inner node stands twice":                   {1: innerOf([]int{2, 2}, "m")},
	"the root stands under itself":                 {1: innerOf([]int{2, 1}, "m")},
	"the root is its first kid":                    {1: innerOf([]int{1, 2}, "m")},
	"an inner node is its own kid":                 {3: innerOf([]int{6, 3, 8}, "p", "t")},
	"the root stands below":                        {3: innerOf([]int{6, 7, 1}, "p", "t")},
	"two nodes stand under each other":             {2: innerOf([]int{4, 3}, "e"), 3: innerOf([]int{6, 2}, "p")},
	"a value's page is a leaf":                     {7: overOf(4, 500, "p", "q")},
	"a value's page is its own leaf":               {7: overOf(7, 500, "p", "q")},
	"a value's page is not taken":                  {7: overOf(30, 500, "p", "q")},
	"a value's page is beyond all pages":           {7: overOf(2000, 500, "p", "q")},
	"a value's next page is not taken":             {9: chunk(30, 440)},
	"a value's next page is none":                  {9: chunk(0, 440)},
	"a value's next page is the same":              {9: chunk(9, 440)},
	"a value's next page has a great number":       {9: chunk(1<<40, 440)},
	"a value goes on in a page below 0":            {10: chunk(1<<64-1, 60)},
	"a value's next page is MaxPages":              {9: chunk(api.MaxPages, 440)},
	"a value goes on behind its end":               {10: chunk(11, 60), 11: chunk(0, 0)},
	"a value goes on in what is not taken":         {10: chunk(30, 60)},
	"a value's first page is short":                {9: chunk(10, 439)},
	"a value's first page is long":                 {9: chunk(10, 441)},
	"a value's last page is short":                 {10: chunk(0, 59)},
	"a value's last page is long":                  {10: chunk(0, 61)},
	"a value's pages are cut elsewhere":            {9: chunk(10, 439), 10: chunk(0, 61)},
	"a value's page is its next one, and has none": {9: chunk(9, 0)},
	"a value's page is empty":                      {9: ""},
	"a value's last page is empty":                 {10: ""},
	"a value's page has a number in another form":  {10: "\x80\x00" + some(60, 60)},
	"a value's page begins with no number":         {10: "\x80\x00" + some(58, 58)},
	"a value is longer than may be":                {7: overOf(9, api.MaxVal+1, "p", "q"), 9: chunk(11, 440), 11: chunk(12, 440), 12: chunk(13, 440), 13: chunk(14, 440), 14: chunk(15, 440), 15: chunk(16, 440), 16: chunk(17, 440), 17: chunk(18, 440), 18: chunk(10, 440), 10: chunk(0, 137)},
	"a value is far longer than may be":            {7: overOf(9, 1<<40, "p", "q"), 9: chunk(10, 440), 10: chunk(9, 440)},
	"two values have one page":                     {8: overOf(10, 65, "x"), 10: chunk(0, 65), 7: overOf(9, 505, "p", "q")},
	"a value's page is another value's first one":  {8: overOf(9, 500, "x")},
}

// P9.3: what is no tree is told so, without a panic, and without an end that does not come; and whatever else is asked.
func TestCheckOfNoTrees(t *testing.T) {
	for what, change := range noTrees {
		l := grown()
		maps.Copy(l, change)
		p, x := crafted(t, 64, l, 1)
		if keys, pages, e := x.Check(); keys != 0 || pages != 0 || e != api.ErrTree {
			t.Errorf("%s: Check: %d, %d, %d", what, keys, pages, e)
		}
		prod(t, what, p, x)
	}
}

// P9.3: an empty leaf is no tree by itself, nor is an inner node of one kid; the keys that there are are told.
func TestCheckOfBareRoots(t *testing.T) {
	for _, l := range []sheets{
		{1: leafOf()},
		{1: innerOf([]int{2}), 2: leafOf("a")},
		{1: innerOf([]int{2}), 2: leafOf()},
	} {
		p, x := crafted(t, 64, l, 1)
		if _, _, e := x.Check(); e != api.ErrTree {
			t.Errorf("Check: %d", e)
		}
		wantGet(t, x, "b", "", api.ErrNone)
		prod(t, "bare", p, x)
	}
}

// P9.1, P9.3: nodes that are deeper than those of any tree end with an error.
func TestTooDeep(t *testing.T) {
	for _, depth := range []int{2, 10, 11, 12, 13, 50} {
		l := sheets{}
		for i := 1; i < depth; i++ {
			l[i] = innerOf([]int{i + 1})
		}
		l[depth] = leafOf("a", "c")
		p, x := crafted(t, 120, l, 1)
		w, keys := api.OK, "a c "
		if depth > 11 {
			w, keys = api.ErrTree, ""
		}
		wantGet(t, x, "a", "", w)
		var s strings.Builder
		for k := range x.All(nil, nil) {
			s.WriteString(string(k) + " ")
		}
		if s.String() != keys {
			t.Errorf("%d levels: All: %s", depth, s.String())
		}
		if got := keyOf(t, x.Last()); (got == "c") != (w == api.OK) {
			t.Errorf("%d levels: Last: %q", depth, got)
		}
		prod(t, "deep", p, x)
	}
}

// P1, the bound: nodes whose kids are all one page have more ways down than can be gone through.
func TestManyWaysDown(t *testing.T) {
	for _, leaf := range []api.Node{leafOf(), leafOf("a"), leafOf("zz"), leafOf("a", "m", "zz")} {
		l := sheets{}
		for i := 1; i < 11; i++ {
			n := api.Node{}
			for k := range 100 {
				n.Kids = append(n.Kids, i+1)
				if k > 0 {
					n.Keys = append(n.Keys, []byte{'b', byte(k)})
				}
			}
			l[i] = n
		}
		l[11] = leaf
		p, x := crafted(t, 120, l, 1)
		if _, _, e := x.Check(); e != api.ErrTree {
			t.Errorf("Check: %d", e)
		}
		prod(t, "many ways", p, x)
	}
}
