package delta

import (
	"maps"
	"slices"

	"ramble/api"
	"ramble/graph"
)

// draft is a graph that may be, as changes go over it: its elements by their ids.
// Properties are shared with the graph that it was made of: they are never changed where they stand.
type draft struct {
	v    map[int64]api.Vertex
	e    map[int64]api.Link
	last int64
}

// Apply is g behind changes, done one by one, and how many were done; with an error it ends there, and answers the graph so far.
// graph.Check's error of g; of each change Check's, ErrTwice, if an element of that id is there already, ErrElem, if there is none that it needs, ErrFull, if there is no room for it, and those of graph's Set, Unset and Drop.
func Apply(g api.Graph, l ...api.Change) (api.Graph, int, api.Errno) {
	if e := graph.Check(g); e != api.OK {
		return graph.Clone(g), 0, e
	}
	d := draftOf(g)
	for i, c := range l {
		if e := d.do(c); e != api.OK {
			return d.graph(), i, e
		}
	}
	return d.graph(), len(l), api.OK
}

func draftOf(g api.Graph) *draft {
	d := &draft{v: map[int64]api.Vertex{}, e: map[int64]api.Link{}, last: g.Last}
	for _, v := range g.V {
		d.v[v.Id] = v
	}
	for _, l := range g.E {
		d.e[l.Id] = l
	}
	return d
}

// graph is what the draft is as a graph, in memory of its own.
func (d *draft) graph() api.Graph {
	g := api.Graph{Last: d.last}
	for _, id := range slices.Sorted(maps.Keys(d.v)) {
		g.V = append(g.V, d.v[id])
	}
	for _, id := range slices.Sorted(maps.Keys(d.e)) {
		g.E = append(g.E, d.e[id])
	}
	return graph.Clone(g)
}

// do does one change, or nothing, with an error.
func (d *draft) do(c api.Change) api.Errno {
	if e := Check(c); e != api.OK {
		return e
	}
	switch c.Kind {
	case api.ChAddV:
		return d.addV(c)
	case api.ChAddE:
		return d.addE(c)
	case api.ChSet:
		return d.set(c)
	case api.ChUnset:
		return d.unset(c)
	case api.ChDrop:
		return d.drop(c.Elem)
	}
	d.last = max(d.last, c.Out)
	return api.OK
}

func (d *draft) addV(c api.Change) api.Errno {
	id := c.Elem.N
	switch {
	case d.has(id):
		return api.ErrTwice
	case len(d.v) >= api.MaxElems:
		return api.ErrFull
	}
	d.v[id] = api.Vertex{Id: id, Label: c.Label}
	d.last = max(d.last, id)
	return api.OK
}

func (d *draft) addE(c api.Change) api.Errno {
	id := c.Elem.N
	switch {
	case d.has(id):
		return api.ErrTwice
	case !d.hasVertex(c.Out) || !d.hasVertex(c.In):
		return api.ErrElem
	case len(d.e) >= api.MaxElems:
		return api.ErrFull
	}
	d.e[id] = api.Link{Id: id, Label: c.Label, Out: c.Out, In: c.In}
	d.last = max(d.last, id)
	return api.OK
}

// has tells whether there is a vertex or an edge of that id.
func (d *draft) has(id int64) bool { return d.hasVertex(id) || d.hasEdge(id) }

func (d *draft) hasVertex(id int64) bool {
	_, is := d.v[id]
	return is
}

func (d *draft) hasEdge(id int64) bool {
	_, is := d.e[id]
	return is
}

func (d *draft) set(c api.Change) api.Errno {
	g, e := graph.Set(d.around(c.Elem), c.Elem, c.Name, c.Value)
	d.put(g, c.Elem)
	return e
}

func (d *draft) unset(c api.Change) api.Errno {
	g, _, e := graph.Unset(d.around(c.Elem), c.Elem, c.Name)
	d.put(g, c.Elem)
	return e
}

// around is the least graph that has elem with its properties: what is asked of it takes no longer where the whole graph is great. It is empty, if elem is not there.
func (d *draft) around(elem api.Value) api.Graph {
	g := api.Graph{Last: d.last}
	switch {
	case elem.Kind == api.VVertex && d.hasVertex(elem.N):
		g.V = []api.Vertex{d.v[elem.N]}
	case elem.Kind == api.VEdge && d.hasEdge(elem.N):
		l := d.e[elem.N]
		g.E = []api.Link{l}
		for _, id := range slices.Compact([]int64{min(l.Out, l.In), max(l.Out, l.In)}) {
			g.V = append(g.V, api.Vertex{Id: id, Label: d.v[id].Label})
		}
	}
	return g
}

// put takes over what became of elem in the graph around it, and leaves an edge's ends as they are: there they stand without their properties.
func (d *draft) put(g api.Graph, elem api.Value) {
	if elem.Kind == api.VEdge {
		for _, l := range g.E {
			d.e[l.Id] = l
		}
		return
	}
	for _, v := range g.V {
		d.v[v.Id] = v
	}
}

// drop takes elem away, and, if that is a vertex, its edges.
func (d *draft) drop(elem api.Value) api.Errno {
	id := elem.N
	switch {
	case elem.Kind == api.VVertex && d.hasVertex(id):
		delete(d.v, id)
		maps.DeleteFunc(d.e, func(_ int64, l api.Link) bool { return l.Out == id || l.In == id })
	case elem.Kind == api.VEdge && d.hasEdge(id):
		delete(d.e, id)
	default:
		return api.ErrElem
	}
	return api.OK
}
