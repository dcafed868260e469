package txn

import (
	"fmt"
	"maps"
	"slices"

	"ramble/api"
	"ramble/delta"
	"ramble/graph"
)

// model is the chapter's sentences, as plainly as may be: every version's graph and changes are kept, and what a transaction sees is reckoned anew each time.
type model struct {
	graphs  []api.Graph     // of the versions from 0 on
	changes []delta.Changes // of the versions from 1 on
	live    map[int64]*modelled
	number  int64
	told    int64
}

type modelled struct {
	began int
	own   delta.Changes
}

func modelOf(g api.Graph) *model {
	return &model{graphs: []api.Graph{g}, live: map[int64]*modelled{}}
}

func (m *model) version() int { return len(m.changes) }

func (m *model) latest() api.Graph { return m.graphs[m.version()] }

func (m *model) begin() (int64, api.Errno) {
	if len(m.live) == 16 {
		return 0, api.ErrFull
	}
	m.number++
	m.live[m.number] = &modelled{began: m.version()}
	return m.number, api.OK
}

func (m *model) sees(t *modelled) api.Graph {
	g, _, err := delta.Apply(m.graphs[t.began], t.own...)
	if err != api.OK {
		panic(err)
	}
	return g
}

func (m *model) do(id int64, l []api.Change) api.Errno {
	t := m.live[id]
	if t == nil {
		return api.ErrNone
	}
	_, _, err := delta.Apply(m.sees(t), l...)
	if err == api.OK {
		t.own = slices.Concat(t.own, l)
	}
	return err
}

func (m *model) fresh(id int64) (int64, api.Errno) {
	if m.live[id] == nil {
		return 0, api.ErrNone
	}
	greatest := []int64{m.latest().Last, m.told}
	for _, t := range m.live {
		greatest = append(greatest, m.sees(t).Last)
	}
	if slices.Max(greatest) == api.MaxId {
		return 0, api.ErrFull
	}
	m.told = slices.Max(greatest) + 1
	return m.told, api.OK
}

func (m *model) commit(id int64) (int64, api.Errno) {
	t := m.live[id]
	if t == nil {
		return 0, api.ErrNone
	}
	delete(m.live, id)
	if len(t.own) == 0 {
		return int64(m.version()), api.OK
	}
	for version := t.began + 1; version <= m.version(); version++ {
		if m.inTheWay(t, version) {
			return 0, api.ErrConflict
		}
	}
	g, _, err := delta.Apply(m.latest(), t.own...)
	if err != api.OK {
		return 0, err
	}
	m.graphs = append(m.graphs, g)
	m.changes = append(m.changes, t.own)
	return int64(m.version()), api.OK
}

// inTheWay tells whether the changes of a version are in the way of those of t.
func (m *model) inTheWay(t *modelled, version int) bool {
	theirs := m.changes[version-1]
	for _, x := range t.own.Writes(m.graphs[t.began]) {
		for _, y := range theirs.Writes(m.graphs[version-1]) {
			if x.N == y.N {
				return true
			}
		}
	}
	return movesNeeded(t.own, theirs) || movesNeeded(theirs, t.own)
}

// movesNeeded tells whether a drops or adds a vertex that b needs.
func movesNeeded(a, b delta.Changes) bool {
	for _, c := range a {
		for _, x := range b {
			if (c.Kind == api.ChDrop || c.Kind == api.ChAddV) && c.Elem.Kind == api.VVertex && x.Kind == api.ChAddE && (x.Out == c.Elem.N || x.In == c.Elem.N) {
				return true
			}
		}
	}
	return false
}

func (m *model) abort(id int64) api.Errno {
	if m.live[id] == nil {
		return api.ErrNone
	}
	delete(m.live, id)
	return api.OK
}

func (m *model) past(version int64) (delta.Changes, bool) {
	for _, t := range m.live {
		if int64(t.began) < version && version <= int64(m.version()) {
			return m.changes[version-1], true
		}
	}
	return nil, false
}

func (m *model) numbers() []int64 { return slices.Sorted(maps.Keys(m.live)) }

// state is what face.state must tell.
func (m *model) state() string {
	s := fmt.Sprintf("version %d, live %v, graph %s", m.version(), m.numbers(), tell(m.latest()))
	for _, id := range m.numbers() {
		t := m.live[id]
		s += fmt.Sprintf("\n%d sees %s (0) by its own %s (0)", id, tell(m.sees(t)), tellChanges(t.own))
	}
	for version := -1; version <= m.version()+2; version++ {
		l, is := m.past(int64(version))
		s += fmt.Sprintf("\npast %d: %s %v", version, tellChanges(l), is)
	}
	return s
}

// inOrder is what all changes that were committed come to, done one behind the other with the first graph.
func (m *model) inOrder() api.Graph {
	g := graph.Clone(m.graphs[0])
	for _, l := range m.changes {
		for _, c := range l {
			h, _, err := delta.Apply(g, c)
			if err != api.OK {
				panic(err)
			}
			g = h
		}
	}
	return g
}
