package keys

import (
	"ramble/api"
	"ramble/codec"
	"ramble/num"
	"ramble/value"
)

// Meta is the graph's own entry: its last id, how many vertices and how many edges it has. Numbers below 0 are taken as 0.
func Meta(last int64, vertices, edges int) api.Entry {
	return api.Entry{Key: []byte{api.KyMeta}, Val: numbers(last, int64(vertices), int64(edges))}
}

// Vertex are all entries of a vertex, the one under its id first; nothing, if no vertex may have that id.
func Vertex(v api.Vertex) []api.Entry {
	if !isId(v.Id) {
		return nil
	}
	elem := value.Vertex(v.Id)
	entries := []api.Entry{{Key: Key(elem), Val: putProps(putText(nil, v.Label), v.Props)}}
	return append(entries, indexes(elem, v.Label, v.Props)...)
}

// Edge are all entries of an edge, the one under its id first, then those under its vertices; nothing, if no edge may have that id, or no vertex that of its Out or In.
func Edge(e api.Link) []api.Entry {
	if !isId(e.Id) || !isId(e.Out) || !isId(e.In) {
		return nil
	}
	elem := value.Edge(e.Id)
	entries := []api.Entry{
		{Key: Key(elem), Val: putProps(putText(numbers(e.Out, e.In), e.Label), e.Props)},
		{Key: putForms(Out(e.Out, e.Label), elem), Val: numbers(e.In)},
		{Key: putForms(In(e.In, e.Label), elem), Val: numbers(e.Out)},
	}
	return append(entries, indexes(elem, e.Label, e.Props)...)
}

func isId(id int64) bool { return id >= 1 && id <= api.MaxId }

// indexes are an element's entries by its label and by each of its properties.
func indexes(elem api.Value, label string, props []api.Prop) []api.Entry {
	entries := []api.Entry{{Key: putForms(Label(elem.Kind, label), elem)}}
	for _, p := range props {
		entries = append(entries, api.Entry{Key: putForms(Prop(elem.Kind, p.Name, p.Value), elem)})
	}
	return entries
}

func putProps(b []byte, props []api.Prop) []byte {
	b = append(b, numbers(int64(len(props)))...)
	for _, p := range props {
		b = putText(b, p.Name)
		b = append(b, codec.Put(nil, p.Value)...)
	}
	return b
}

func putText(b []byte, s string) []byte {
	b = append(b, numbers(int64(len(s)))...)
	return append(b, s...)
}

// numbers are the bytes of numbers, one behind the other; of those below 0 as of 0.
func numbers(l ...int64) []byte {
	var b []byte
	for _, n := range l {
		b = append(b, num.Put(nil, uint64(max(n, 0)))...)
	}
	return b
}
