package btree

import (
	"fmt"
	"maps"
	"math/rand"
	"slices"
	"strings"
	"testing"

	"ramble/api"
	"ramble/disk"
	"ramble/node"
	"ramble/pager"
)

// laid is a disk with so many slots and pages.
func laid(t testing.TB, slots, pages int) *disk.Disk {
	t.Helper()
	d, e := disk.New(2 + slots + 4*pages)
	want(t, "New", e, api.OK)
	want(t, "Format", pager.Format(d, slots, pages), api.OK)
	return d
}

// pagesOf is the pages of a disk.
func pagesOf(t testing.TB, d *disk.Disk, pool int) *pager.Pager {
	t.Helper()
	p, e := pager.Open(d, pool)
	want(t, "pager.Open", e, api.OK)
	return p
}

// treeOf is the tree of a word.
func treeOf(t testing.TB, p *pager.Pager, word int) *Tree {
	t.Helper()
	x, e := Open(p, word)
	want(t, "Open", e, api.OK)
	return x
}

func want(t testing.TB, what string, got, e api.Errno) {
	t.Helper()
	if got != e {
		t.Fatalf("%s: got %d, want %d", what, got, e)
	}
}

// some is a text of so many bytes that differs by seed.
func some(length, seed int) string {
	b := make([]byte, length)
	for i := range b {
		b[i] = byte(i*31 + i/256*7 + seed)
	}
	return string(b)
}

// roomy is the bytes of s, in memory that has room for more behind them.
func roomy(s string) []byte { return append([]byte(s), "room"...)[:len(s)] }

// spoil changes all bytes for which b has room.
func spoil(b []byte) {
	b = b[:cap(b)]
	for i := range b {
		b[i] ^= 0x5a
	}
}

// handed holds that bytes are as they were handed in, and the room behind them, too; then it spoils them, so that nobody can have kept them.
func handed(t testing.TB, what string, b []byte, s string) {
	t.Helper()
	if string(b[:cap(b)][:len(s)+4]) != s+"room" {
		t.Fatalf("%s changed what it was handed: %q", what, s)
	}
	spoil(b)
}

// told is the text of bytes that were answered; then it spoils these, so that nobody can share them.
func told(b []byte) string {
	s := string(b)
	spoil(b)
	return s
}

// The tests reach Get, Put and Delete through these, which hold them against R3.
func get(t testing.TB, x *Tree, key string) (string, api.Errno) {
	t.Helper()
	k := roomy(key)
	b, e := x.Get(k)
	handed(t, "Get", k, key)
	if e != api.OK && b != nil {
		t.Fatalf("Get of %q: %q beside %d", key, b, e)
	}
	return told(b), e
}

func put(t testing.TB, x *Tree, key, val string) api.Errno {
	t.Helper()
	k, v := roomy(key), roomy(val)
	e := x.Put(k, v)
	handed(t, "Put", k, key)
	handed(t, "Put", v, val)
	return e
}

func del(t testing.TB, x *Tree, key string) (bool, api.Errno) {
	t.Helper()
	k := roomy(key)
	is, e := x.Delete(k)
	handed(t, "Delete", k, key)
	if e != api.OK && is {
		t.Fatalf("Delete of %q: true beside %d", key, e)
	}
	return is, e
}

func wantGet(t testing.TB, x *Tree, key, val string, e api.Errno) {
	t.Helper()
	if got, f := get(t, x, key); got != val || f != e {
		t.Fatalf("Get of %q: %q, %d; want %q, %d", key, got, f, val, e)
	}
}

// entry is a key and its value.
type entry struct{ key, val string }

// all is what All tells, of at most so many keys as there may be.
func all(t testing.TB, x *Tree, from, to string) []entry {
	t.Helper()
	f, g := roomy(from), roomy(to)
	seq := x.All(f, g)
	handed(t, "All", f, from)
	handed(t, "All", g, to)
	var l []entry
	for k, v := range seq {
		l = append(l, entry{told(k), told(v)})
	}
	return l
}

// keyOf is the key of a cursor, "" if it stands nowhere.
func keyOf(t testing.TB, c *Cursor) string {
	t.Helper()
	k, is := c.Key()
	if is != (len(k) > 0) {
		t.Fatalf("Key: %q, %v", k, is)
	}
	return told(k)
}

// seek is Seek, held against R3.
func seek(t testing.TB, x *Tree, key string) *Cursor {
	t.Helper()
	k := roomy(key)
	c := x.Seek(k)
	handed(t, "Seek", k, key)
	if c == nil {
		t.Fatal("Seek: nil")
	}
	return c
}

// wantAt holds at which key a cursor stands, and with which value; nowhere, if the key is "".
func wantAt(t testing.TB, what string, c *Cursor, key, val string) {
	t.Helper()
	if got := keyOf(t, c); got != key {
		t.Fatalf("%s: at %q, want %q", what, got, key)
	}
	w := api.OK
	if key == "" {
		w = api.ErrNone
	}
	v, e := c.Val()
	if got := string(v); got != val || e != w {
		t.Fatalf("%s: the value %q, %d; want %q, %d", what, got, e, val, w)
	}
	spoil(v)
}

// rig is a tree, and the map that it should be.
type rig struct {
	t    testing.TB
	d    *disk.Disk
	p    *pager.Pager
	x    *Tree
	m    map[string]string
	word int
}

// newRig is an empty tree on pages of its own, with a pool as great as may be.
func newRig(t testing.TB, slots, pages int) *rig {
	t.Helper()
	d := laid(t, slots, pages)
	p := pagesOf(t, d, api.MaxPool)
	return &rig{t: t, d: d, p: p, x: treeOf(t, p, 2), m: map[string]string{}, word: 2}
}

// put and del do it to both.
func (r *rig) put(key, val string) {
	r.t.Helper()
	want(r.t, fmt.Sprintf("Put of %q", key), put(r.t, r.x, key, val), api.OK)
	r.m[key] = val
}

func (r *rig) del(key string) {
	r.t.Helper()
	_, there := r.m[key]
	is, e := del(r.t, r.x, key)
	if is != there || e != api.OK {
		r.t.Fatalf("Delete of %q: %v, %d; want %v", key, is, e, there)
	}
	delete(r.m, key)
}

func (r *rig) commit() {
	r.t.Helper()
	want(r.t, "Commit", r.p.Commit(), api.OK)
}

// reopen opens the disk anew.
func (r *rig) reopen() {
	r.t.Helper()
	r.p = pagesOf(r.t, r.d, r.p.Pool())
	r.x = treeOf(r.t, r.p, r.word)
}

// entries is what the map has from a key on below another one, rising.
func (r *rig) entries(from, to string) []entry {
	var l []entry
	for _, k := range slices.Sorted(maps.Keys(r.m)) {
		if k >= from && (to == "" || k < to) {
			l = append(l, entry{k, r.m[k]})
		}
	}
	return l
}

// counts holds Check: as many keys as the map has, and just the pages that are not free.
func (r *rig) counts(what string) {
	r.t.Helper()
	taken := r.p.Pages() - 1 - r.p.Left()
	keys, pages, e := r.x.Check()
	if keys != len(r.m) || pages != taken || e != api.OK {
		r.t.Fatalf("%s: Check: %d keys, %d pages, %d; want %d keys, %d pages", what, keys, pages, e, len(r.m), taken)
	}
	if root, e := r.p.Word(r.word); len(r.m) == 0 && (taken != 0 || root != 0 || e != api.OK) {
		r.t.Fatalf("%s: an empty tree has %d pages and the root %d, %d", what, taken, root, e)
	}
}

// same holds all that the tree tells against the map.
func (r *rig) same(what string) {
	r.t.Helper()
	r.counts(what)
	l := r.entries("", "")
	if got := all(r.t, r.x, "", ""); !slices.Equal(got, l) {
		r.t.Fatalf("%s: All: %s; want %s", what, tell(got), tell(l))
	}
	for _, x := range l {
		wantGet(r.t, r.x, x.key, x.val, api.OK)
		if next := x.key + "\x00"; len(next) <= api.MaxKey {
			if _, is := r.m[next]; !is {
				wantGet(r.t, r.x, next, "", api.ErrNone)
			}
		}
	}
	r.sameCursors(what, l)
}

// sameCursors goes through the tree in both directions.
func (r *rig) sameCursors(what string, l []entry) {
	r.t.Helper()
	c := seek(r.t, r.x, "")
	for _, x := range l {
		wantAt(r.t, what+", rising", c, x.key, x.val)
		if is := c.Next(); is != (keyOf(r.t, c) != "") {
			r.t.Fatalf("%s: Next behind %q: %v", what, x.key, is)
		}
	}
	wantAt(r.t, what+", behind the last one", c, "", "")
	c = r.x.Last()
	for _, x := range slices.Backward(l) {
		wantAt(r.t, what+", falling", c, x.key, x.val)
		if is := c.Prev(); is != (keyOf(r.t, c) != "") {
			r.t.Fatalf("%s: Prev ahead of %q: %v", what, x.key, is)
		}
	}
	wantAt(r.t, what+", ahead of the first one", c, "", "")
}

// tell is entries as a text, their values by length alone.
func tell(l []entry) string {
	var s strings.Builder
	for _, x := range l {
		fmt.Fprintf(&s, "%q:%d ", x.key, len(x.val))
	}
	return s.String()
}

// image is all that a pager tells of its pages.
func image(t testing.TB, p *pager.Pager) string {
	t.Helper()
	var s strings.Builder
	fmt.Fprintln(&s, p.Pages(), p.Left(), p.Staged(), p.Pool(), p.Broken())
	for i := range api.MaxWords {
		fmt.Fprintln(&s, fmt.Sprint(p.Word(i)))
	}
	for page := range p.Pages() {
		b, e := p.Get(page)
		s.Write(append(b, byte(e), byte(len(b)), byte(len(b)>>8)))
	}
	return s.String()
}

// levels is how many nodes stand from the root to a leaf.
func levels(t testing.TB, x *Tree) int {
	t.Helper()
	page, e := x.root()
	want(t, "root", e, api.OK)
	if page == 0 {
		return 0
	}
	for level := 1; ; level++ {
		n, e := x.node(page)
		want(t, "node", e, api.OK)
		if n.Leaf {
			return level
		}
		page = n.Kids[0]
	}
}

// sheets are what pages are given by hand: nodes, or bytes that may be none.
type sheets map[int]any

// bytesOf is what a sheet has.
func bytesOf(t testing.TB, sheet any) []byte {
	t.Helper()
	if n, is := sheet.(api.Node); is {
		b, e := node.Bytes(n)
		want(t, "Bytes", e, api.OK)
		return b
	}
	return []byte(sheet.(string))
}

// crafted is a tree whose pages were written by hand, and committed.
func crafted(t testing.TB, pages int, l sheets, root int64) (*pager.Pager, *Tree) {
	t.Helper()
	p := pagesOf(t, laid(t, api.MaxSlots, pages), api.MaxPool)
	layByHand(t, p, l, root)
	return p, treeOf(t, p, 2)
}

// layByHand gives empty pages these sheets, and the word 2 a root.
func layByHand(t testing.TB, p *pager.Pager, l sheets, root int64) {
	t.Helper()
	order := slices.Sorted(maps.Keys(l))
	var holes []int
	for _, at := range order {
		for {
			page, e := p.Alloc()
			want(t, "Alloc", e, api.OK)
			if page == at {
				break
			}
			holes = append(holes, page)
		}
		want(t, "Set", p.Set(at, bytesOf(t, l[at])), api.OK)
	}
	for _, page := range holes {
		want(t, "Free", p.Free(page), api.OK)
	}
	want(t, "SetWord", p.SetWord(2, root), api.OK)
	want(t, "Commit", p.Commit(), api.OK)
}

// leafOf is a leaf of keys whose values are empty.
func leafOf(keys ...string) api.Node {
	n := api.Node{Leaf: true}
	for _, k := range keys {
		n.Cells = append(n.Cells, api.Cell{Key: []byte(k)})
	}
	return n
}

// innerOf is an inner node of kids, with keys between them.
func innerOf(kids []int, keys ...string) api.Node {
	n := api.Node{Kids: kids}
	for _, k := range keys {
		n.Keys = append(n.Keys, []byte(k))
	}
	return n
}

// wide is a key of MaxKey bytes that stands where n does.
func wide(n int) string { return fmt.Sprintf("%04d", n) + strings.Repeat("w", api.MaxKey-4) }

// orders are ways in which so many keys may come.
func orders(n int) map[string][]int {
	rising := make([]int, n)
	for i := range rising {
		rising[i] = i
	}
	falling := slices.Clone(rising)
	slices.Reverse(falling)
	return map[string][]int{"rising": rising, "falling": falling, "in no order": rand.New(rand.NewSource(9)).Perm(n)}
}

// eachOrder runs f for each of the orders of so many keys, sorted by name.
func eachOrder(n int, f func(name string, order []int)) {
	l := orders(n)
	for _, name := range slices.Sorted(maps.Keys(l)) {
		f(name, l[name])
	}
}
