package btree

import (
	"slices"

	"ramble/api"
	"ramble/node"
)

// replace puts n in the place of the node at the end of a way, and what becomes of the nodes above it in their places.
func (d *draft) replace(way route, n api.Node) api.Errno {
	d.root = way[0].page
	for at := len(way) - 1; at > 0; at-- {
		parent, changed, e := d.settle(way[at-1], way[at], n)
		if e != api.OK || !changed {
			return e
		}
		n = parent
	}
	if node.Size(n) > api.PageLen && len(way) == maxLevels {
		// Of pages that no tree are: nobody would find a way down from above these.
		return api.ErrTree
	}
	d.settleRoot(way[0].page, n)
	return api.OK
}

// settle puts n in the place of a node below another one, in two halves, if it is too long for a page, together with a neighbour, if it became short: what becomes of the node above, and whether that changes.
func (d *draft) settle(up, was stop, n api.Node) (api.Node, bool, api.Errno) {
	size := node.Size(n)
	switch {
	case size > api.PageLen:
		first, key, second := node.Split(n)
		d.set(was.page, first)
		return node.Adopt(up.node, up.at, key, d.lay(second)), true, api.OK
	case size < api.PageLen/2 && size < node.Size(was.node):
		return d.join(up, was.page, n)
	}
	d.set(was.page, n)
	return api.Node{}, false, api.OK
}

// settleRoot puts n in the place of the root: with halves the tree gets a level more, with nothing beside a last kid one less.
func (d *draft) settleRoot(page int, n api.Node) {
	switch {
	case node.Size(n) > api.PageLen:
		first, key, second := node.Split(n)
		d.set(page, first)
		d.root = d.lay(api.Node{Keys: [][]byte{key}, Kids: []int{page, d.lay(second)}})
	case !isBare(n):
		d.set(page, n)
	case n.Leaf:
		d.free(page)
		d.root = 0
	default:
		d.free(page)
		d.root = n.Kids[0]
	}
}

// isBare tells whether a node has less than it must have: a leaf without cells, an inner node without keys.
func isBare(n api.Node) bool { return len(n.Cells) == 0 && len(n.Keys) == 0 }

// pair is two neighbours, one of which is the node that is settled.
type pair struct {
	at    int    // the place of the first one
	pages [2]int // where they stand
	whole api.Node
}

// join puts n, whose page stands at a place of the node above, together with a neighbour, if one page has room for both; if not, n stays alone, unless it is bare: then it gets some of the neighbour's kids.
func (d *draft) join(up stop, page int, n api.Node) (api.Node, bool, api.Errno) {
	var p pair
	for _, at := range []int{up.at - 1, up.at} {
		if at < 0 || at+1 >= len(up.node.Kids) {
			continue
		}
		var e api.Errno
		if p, e = d.pairAt(up, at, n); e != api.OK {
			return api.Node{}, false, e
		}
		if node.Size(p.whole) <= api.PageLen {
			d.set(p.pages[0], p.whole)
			d.free(p.pages[1])
			return node.Disown(up.node, at+1), true, api.OK
		}
	}
	if !isBare(n) {
		d.set(page, n)
		return api.Node{}, false, api.OK
	}
	if p.pages[0] == 0 {
		// There is no neighbour: no tree has a node with one kid.
		return api.Node{}, false, api.ErrTree
	}
	return d.share(up, p), true, api.OK
}

// pairAt is the kids at a place and behind it, one of which is n.
func (d *draft) pairAt(up stop, at int, n api.Node) (pair, api.Errno) {
	p := pair{at: at, pages: [2]int{up.node.Kids[at], up.node.Kids[at+1]}}
	first, second := n, n
	var e api.Errno
	if at < up.at {
		first, e = d.read(p.pages[0])
	} else {
		second, e = d.read(p.pages[1])
	}
	switch {
	case e != api.OK:
		return pair{}, e
	case first.Leaf != second.Leaf:
		return pair{}, api.ErrTree
	case first.Leaf:
		p.whole = api.Node{Leaf: true, Cells: slices.Concat(first.Cells, second.Cells)}
	default:
		p.whole = api.Node{
			Keys: slices.Concat(first.Keys, up.node.Keys[at:at+1], second.Keys),
			Kids: slices.Concat(first.Kids, second.Kids),
		}
	}
	return p, api.OK
}

// share puts the halves of two neighbours in their places: what becomes of the node above. The key between them may be longer than the one that it had.
func (d *draft) share(up stop, p pair) api.Node {
	first, key, second := node.Split(p.whole)
	d.set(p.pages[0], first)
	d.set(p.pages[1], second)
	n := node.Clone(up.node)
	n.Keys[p.at] = key
	return n
}
