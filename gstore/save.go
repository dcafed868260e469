package gstore

import (
	"ramble/api"
	"ramble/graph"
)

// Save makes g the graph, and commits that, with all that was staged ahead of it. If it is refused, it has staged nothing; with an error of the pages all that was staged is forgotten.
func (s *Store) Save(g api.Graph) api.Errno {
	if !s.made() {
		return api.ErrMade
	}
	if e := graph.Check(g); e != api.OK {
		return e
	}
	e := s.replace(g)
	switch e {
	case api.OK, api.ErrStore, api.ErrLong:
		return e
	}
	// Behind an error of the disk the pager refuses this too, as it refuses all else.
	s.pages.Abort()
	return e
}

// replace puts g's entries in the place of those that stand there, and commits.
func (s *Store) replace(g api.Graph) api.Errno {
	was, _, e := s.whole()
	if e != api.OK {
		return e
	}
	will := entriesOf(g)
	for _, x := range will {
		if len(x.Val) > api.MaxVal {
			return api.ErrLong
		}
	}
	l := swapsOf(was, will)
	// What makes room goes ahead of what takes it: so there never is much less room than at the beginning, or at the end.
	for _, taking := range []bool{false, true} {
		for _, x := range l {
			if x.takesRoom() != taking {
				continue
			}
			if e := s.swap(x); e != api.OK {
				return e
			}
		}
	}
	return s.pages.Commit()
}

// swap is an entry that stands there, and the one that is to stand in its place; where one of them has no key, none stands there, or none is to.
type swap struct{ was, will api.Entry }

// takesRoom tells whether what is to stand there is longer than what stands there.
func (x swap) takesRoom() bool {
	return len(x.will.Key)+len(x.will.Val) > len(x.was.Key)+len(x.was.Val)
}

// swapsOf is what makes some entries others; both rise, and so do these. What is to stay as it is is not among them.
func swapsOf(was, will []api.Entry) []swap {
	var l []swap
	for len(was) > 0 || len(will) > 0 {
		var x swap
		c := compareFirst(was, will)
		if c <= 0 {
			x.was, was = was[0], was[1:]
		}
		if c >= 0 {
			x.will, will = will[0], will[1:]
		}
		if !sameEntry(x.was, x.will) {
			l = append(l, x)
		}
	}
	return l
}

// compareFirst is how the first entries of two lists stand by their keys; where there is none, it stands behind.
func compareFirst(a, b []api.Entry) int {
	switch {
	case len(b) == 0:
		return -1
	case len(a) == 0:
		return 1
	}
	return compareKeys(a[0], b[0])
}

func (s *Store) swap(x swap) api.Errno {
	if len(x.will.Key) > 0 {
		return s.tree.Put(x.will.Key, x.will.Val)
	}
	_, e := s.tree.Delete(x.was.Key)
	return e
}
