package btree

import (
	"ramble/api"
	"ramble/node"
)

// maxLevels is how many nodes may stand one below the other: all but the leaves have two kids at least, and for one level more there are not pages enough. So a way that does not end is told, too.
const maxLevels = 11

// stop is a node on the way down, and the place of the kid by which the way goes on.
type stop struct {
	page int
	node api.Node
	at   int
}

// route is the way from the root down to a leaf; in an empty tree there is none.
type route []stop

// leaf is the node at the end of the way.
func (r route) leaf() api.Node {
	if len(r) == 0 {
		return api.Node{Leaf: true}
	}
	return r[len(r)-1].node
}

// cell is the leaf's cell of a key.
func (r route) cell(key []byte) (api.Cell, bool) {
	leaf := r.leaf()
	at, is := node.Find(leaf, key)
	if !is {
		return api.Cell{}, false
	}
	return leaf.Cells[at], true
}

// wayTo is the way to the leaf in which a key is, if it is anywhere.
func (t *Tree) wayTo(key []byte) (route, api.Errno) {
	page, e := t.root()
	if e != api.OK || page == 0 {
		return nil, e
	}
	var way route
down:
	for len(way) < maxLevels {
		n, e := t.node(page)
		switch {
		case e != api.OK:
			return nil, e
		case n.Leaf:
			way = append(way, stop{page: page, node: n})
			break down
		}
		at := node.Child(n, key)
		way = append(way, stop{page: page, node: n, at: at})
		page = n.Kids[at]
	}
	if !way.leaf().Leaf {
		return nil, api.ErrTree
	}
	return way, api.OK
}
