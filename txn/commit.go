package txn

import (
	"slices"

	"ramble/api"
	"ramble/delta"
)

// commit is what made a version.
type commit struct {
	changes delta.Changes
	marks   marks
}

// marks are the ids that changes of a graph touch: of the elements that they write, of the vertices that they need, and of those that they drop or add.
type marks struct{ writes, needs, moves ids }

type ids map[int64]struct{}

// marksOf are the marks of changes of g.
func marksOf(g api.Graph, l delta.Changes) marks {
	m := marks{writes: idsOf(l.Writes(g)), needs: idsOf(l.Needs()), moves: ids{}}
	for _, c := range l {
		if c.Elem.Kind == api.VVertex && (c.Kind == api.ChDrop || c.Kind == api.ChAddV) {
			m.moves[c.Elem.N] = struct{}{}
		}
	}
	return m
}

func idsOf(l []api.Value) ids {
	m := ids{}
	for _, elem := range l {
		m[elem.N] = struct{}{}
	}
	return m
}

// meet tells whether two have an id in common.
func (a ids) meet(b ids) bool {
	for id := range b {
		if _, is := a[id]; is {
			return true
		}
	}
	return false
}

// conflict tells whether those changes are in each other's way: they write elements of one id, or one's drop or add a vertex that the other's need.
func (a marks) conflict(b marks) bool {
	return a.writes.meet(b.writes) || a.needs.meet(b.moves) || a.moves.meet(b.needs)
}

// Commit makes a transaction's changes everybody's: the version. ErrConflict, if a version above that at which it began has changes in the way of its own; delta.Apply's error of the graph and its changes. It is under way no more, whatever comes of it.
func (m *Manager) Commit(id int64) (int64, api.Errno) {
	t, e := m.find(id)
	if e != api.OK {
		return 0, e
	}
	version, e := m.commit(t)
	m.end(id)
	return version, e
}

func (m *Manager) commit(t *transaction) (int64, api.Errno) {
	if len(t.own) == 0 {
		return m.version, api.OK
	}
	if m.conflicts(t) {
		return 0, api.ErrConflict
	}
	g, _, e := delta.Apply(m.graph, t.own...)
	if e != api.OK {
		return 0, e
	}
	m.past = append(m.past, commit{t.own, marksOf(m.graph, t.own)})
	m.graph = g
	m.version++
	return m.version, api.OK
}

// conflicts tells whether a version above that at which t began has changes in the way of its own. Each one's writes are those in the graph that it was made of.
func (m *Manager) conflicts(t *transaction) bool {
	own := marksOf(t.began, t.own)
	for _, c := range m.above(t.version) {
		if own.conflict(c.marks) {
			return true
		}
	}
	return false
}

// above are the commits of the versions above one at which a transaction under way began, or of which Past may still tell.
func (m *Manager) above(version int64) []commit {
	return m.past[len(m.past)-int(m.version-version):]
}

// end takes a transaction away, and the commits of versions below which none under way began any more.
func (m *Manager) end(id int64) {
	delete(m.live, id)
	least := m.version
	for _, t := range m.live {
		least = min(least, t.version)
	}
	m.past = slices.Delete(m.past, 0, len(m.past)-len(m.above(least)))
}
