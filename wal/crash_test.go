package wal

import (
	"fmt"
	"strings"
	"testing"

	"ramble/api"
	"ramble/disk"
)

// state is what a log should tell: its epoch, and its commits.
type state struct {
	epoch   int64
	commits [][][]byte
}

func (s state) text() string { return fmt.Sprint(s.epoch, commitsText(s.commits)) }

// deed is one thing that is done to a log: an Append of records, or a Reset.
type deed struct {
	text    string
	resets  bool
	records [][]byte
}

func (x deed) do(l *Log) api.Errno {
	if x.resets {
		return l.Reset()
	}
	return l.Append(x.records...)
}

// next is what comes of s, if nothing goes wrong.
func (x deed) next(s state) state {
	if x.resets {
		return state{epoch: s.epoch + 1}
	}
	return state{s.epoch, append(append([][][]byte{}, s.commits...), x.records)}
}

func deeds() []deed {
	return []deed{
		{"Reset", true, nil},
		{"Append of nothing", false, nil},
		{"Append of one frame", false, list("a", "", "bc")},
		{"Append of two frames", false, [][]byte{rec(180, 1)}},
		{"Append of three frames", false, [][]byte{rec(100, 2), rec(200, 3)}},
	}
}

// beside is the log once more, over a clone of its disk.
func beside(l *Log) (*disk.Disk, *Log) {
	m := *l
	m.disk = l.disk.Clone()
	return m.disk, &m
}

// everyWay starts clones of a disk whose power went, with what was not flushed kept and torn in every way there is.
func everyWay(t *testing.T, d *disk.Disk, then func(way string, c *disk.Disk)) {
	t.Helper()
	dirty := len(d.Dirty())
	for mask := range 1 << dirty {
		keep := make([]bool, dirty)
		kept := 0
		for i := range keep {
			keep[i] = mask>>i&1 == 1
			kept += mask >> i & 1
		}
		for torn := -1; torn < kept; torn++ {
			c := d.Clone()
			want(t, "Start", c.Start(torn, keep...), api.OK)
			then(fmt.Sprintf("kept %v, torn %d", keep, torn), c)
		}
	}
}

// wantOneOf opens a disk, twice, and holds that one of the states is told; it is answered, with the log.
func wantOneOf(t *testing.T, way string, d *disk.Disk, states ...state) (*Log, state) {
	t.Helper()
	l, _, commits, e := Open(d)
	want(t, way+": Open", e, api.OK)
	got := state{l.Epoch(), commits}
	m, _, again, e := Open(d)
	want(t, way+": Open", e, api.OK)
	if other := (state{m.Epoch(), again}); other.text() != got.text() || m.Used() != l.Used() {
		t.Fatalf("%s: Open tells %s, and then %s", way, got.text(), other.text())
	}
	var texts []string
	for _, s := range states {
		if s.text() == got.text() {
			return l, s
		}
		texts = append(texts, s.text())
	}
	t.Fatalf("%s: Open tells %s; want one of %s", way, got.text(), strings.Join(texts, ", or "))
	return nil, state{}
}

// crasher walks through all that can be done to a log, and lets the power go at each call of the disk.
type crasher struct {
	t        *testing.T
	old, new int // how often the power went and what was under way was not there, and was there
}

// walk does each deed to a log that should tell s, undisturbed and with every crash, and goes on from there.
func (c *crasher) walk(way string, l *Log, s state, left int) {
	if left == 0 {
		return
	}
	for _, x := range deeds() {
		way := way + " > " + x.text
		d, m := beside(l)
		if e := x.do(m); e != api.OK {
			if e != api.ErrStale && e != api.ErrFull {
				c.t.Fatalf("%s: %d", way, e)
			}
			wantOneOf(c.t, way, d, s)
			continue
		}
		wantOneOf(c.t, way, d, x.next(s))
		c.walk(way, m, x.next(s), left-1)
		calls := int(d.Calls() - l.disk.Calls())
		for fuse := 1; fuse <= calls; fuse++ {
			c.crash(fmt.Sprintf("%s, the power goes at the call %d", way, fuse), l, s, x, fuse, left)
		}
	}
}

// crash lets the power go at one call of the disk in the midst of a deed.
func (c *crasher) crash(way string, l *Log, s state, x deed, fuse, left int) {
	d, m := beside(l)
	want(c.t, way, d.SetFuse(fuse), api.OK)
	want(c.t, way, x.do(m), api.ErrDown)
	wantBroken(c.t, way, m, l.Slots(), l.Used(), l.Epoch())
	everyWay(c.t, d, func(how string, d *disk.Disk) {
		m, got := wantOneOf(c.t, way+", "+how, d, s, x.next(s))
		wantByRule(c.t, way+", "+how, d)
		if got.text() == s.text() {
			c.old++
		} else {
			c.new++
		}
		c.walk(way+", "+how, m, got, left-1)
	})
}

// P6.4: behind a crash at any call of any Append or Reset, whatever is kept and torn, and behind another one, Open tells what was there, or that with what was under way; and the same again.
func TestCrashes(t *testing.T) {
	deep := 3
	if testing.Short() {
		deep = 2
	}
	c := &crasher{t: t}
	d := scribbled(t, 8)
	l := format(t, d, 5, "note")
	c.walk("", l, state{epoch: 1}, deep)
	if c.old == 0 || c.new == 0 {
		t.Errorf("%d crashes left what was, %d what should be", c.old, c.new)
	}
}

// P6.4: of what was under way, Open tells it if and only if the power went at the flush and all of it was kept and nothing torn.
func TestCrashTellsTheWhole(t *testing.T) {
	for _, x := range deeds() {
		calls := 1 + Frames(x.records...)
		for fuse := 1; fuse <= calls; fuse++ {
			d := fresh(t, 8)
			l := format(t, d, 5, "")
			want(t, "Append", l.Append(list("ahead")...), api.OK)
			ahead := state{1, [][][]byte{list("ahead")}}
			want(t, "SetFuse", d.SetFuse(fuse), api.OK)
			want(t, x.text, x.do(l), api.ErrDown)
			for torn := -1; torn < fuse-1; torn++ {
				for lost := -1; lost < fuse-1; lost++ {
					keep := []bool{true}
					if lost >= 0 {
						keep = make([]bool, fuse-1)
						for i := range keep {
							keep[i] = i != lost
						}
					}
					c := d.Clone()
					want(t, "Start", c.Start(torn, keep...), api.OK)
					w := ahead
					if fuse == calls && lost < 0 && torn < 0 {
						w = x.next(ahead)
					}
					wantOneOf(t, fmt.Sprint(x.text, fuse, torn, lost), c, w)
				}
			}
		}
	}
}

// P6.4: while a log is laid on a disk of zeros, or of scribbles, the power may go: there is no log, or one without commits; laid again it is there.
func TestCrashesOfFormat(t *testing.T) {
	for _, made := range []func(*testing.T, int) *disk.Disk{fresh, scribbled} {
		for fuse := 1; fuse <= 3; fuse++ {
			d := made(t, 8)
			want(t, "SetFuse", d.SetFuse(fuse), api.OK)
			_, e := Format(d, 5, []byte("note"))
			want(t, "Format", e, api.ErrDown)
			everyWay(t, d, func(way string, c *disk.Disk) {
				w := wantByRule(t, way, c)
				if w.e != api.ErrLog && w != (told{epoch: 1, slots: 5, note: "note", commits: "[]"}) {
					t.Fatalf("the power went at the call %d, %s: Open tells %+v", fuse, way, w)
				}
				l := format(t, c, 5, "again")
				want(t, "Append", l.Append(list("a")...), api.OK)
				wantCommits(t, way, c, 1, 1, list("a"))
			})
		}
	}
}

// P6.4, P6: while a log is laid over another one, and the power goes, Open tells what its heads say, and nothing panics.
func TestCrashesOfFormatOverAnother(t *testing.T) {
	for resets := range 4 {
		for fuse := 1; fuse <= 3; fuse++ {
			d := fresh(t, 8)
			l := format(t, d, 5, "old")
			for range resets {
				want(t, "Append", l.Append(list("a")...), api.OK)
				want(t, "Reset", l.Reset(), api.OK)
			}
			want(t, "SetFuse", d.SetFuse(fuse), api.OK)
			_, e := Format(d, 4, []byte("new"))
			want(t, "Format", e, api.ErrDown)
			everyWay(t, d, func(way string, c *disk.Disk) { wantByRule(t, way, c) })
		}
	}
}

// P6.4: again and again the power goes at a Reset; the epoch rises when its head was kept, and what was there is there till then.
func TestCrashesOfResets(t *testing.T) {
	d := fresh(t, 8)
	l := format(t, d, 5, "note")
	want(t, "Append", l.Append(list("a")...), api.OK)
	s := state{1, [][][]byte{list("a")}}
	for i := range 40 {
		want(t, "SetFuse", d.SetFuse(1+i%2), api.OK)
		want(t, "Reset", l.Reset(), api.ErrDown)
		torn, kept := -1, i%4 == 3
		if i%8 == 7 {
			torn = 0
		}
		want(t, "Start", d.Start(torn, kept), api.OK)
		if kept && torn < 0 {
			s = state{epoch: s.epoch + 1}
		}
		l, _ = wantOneOf(t, fmt.Sprint("crash ", i), d, s)
	}
	if s.epoch != 6 {
		t.Errorf("epoch %d", s.epoch)
	}
}
