package node

import (
	"math"

	"ramble/api"
)

// Split is a node in two halves, with the key between them; a node that can't be halved, alone.
func Split(n api.Node) (api.Node, []byte, api.Node) {
	var first, second api.Node
	var key []byte
	switch {
	case n.Leaf && len(n.Cells) > 1:
		at := leafPlace(n)
		key = n.Cells[at].Key
		first = api.Node{Leaf: true, Cells: n.Cells[:at]}
		second = api.Node{Leaf: true, Cells: n.Cells[at:]}
	case !n.Leaf && len(n.Keys) > 0 && len(n.Kids) > len(n.Keys):
		at := innerPlace(n)
		key = n.Keys[at]
		first = api.Node{Keys: n.Keys[:at], Kids: n.Kids[:at+1]}
		second = api.Node{Keys: n.Keys[at+1:], Kids: n.Kids[at+1:]}
	default:
		first = n
	}
	return Clone(first), copied(key), Clone(second)
}

// choice is the best place so far, and the Size of the greater half there.
type choice struct {
	at      int
	greater int
}

func noChoice() choice { return choice{greater: math.MaxInt} }

// or is the better one of the choice and of a place whose halves have these Sizes; of two that are as good, the earlier one.
func (c choice) or(at, first, second int) choice {
	if greater := max(first, second); greater < c.greater {
		return choice{at: at, greater: greater}
	}
	return c
}

// leafPlace is the place at which a leaf of two cells or more is halved.
func leafPlace(n api.Node) int {
	count := len(n.Cells)
	best := noChoice()
	ahead, behind := 0, Size(n)-headSize(count)
	for i, c := range n.Cells[:count-1] {
		ahead += cellSize(c)
		behind -= cellSize(c)
		at := i + 1
		best = best.or(at, headSize(at)+ahead, headSize(count-at)+behind)
	}
	return best.at
}

// innerPlace is the place at which an inner node, with a key or more, and more kids than keys, is halved. The key at the place is in neither half.
func innerPlace(n api.Node) int {
	count := len(n.Keys)
	best := noChoice()
	ahead, behind := 0, Size(n)-headSize(count)
	for at, key := range n.Keys {
		kid := numberSize(n.Kids[at])
		ahead += kid
		behind -= kid + bytesSize(key)
		best = best.or(at, headSize(at)+ahead, headSize(count-at-1)+behind)
		ahead += bytesSize(key)
	}
	return best.at
}
