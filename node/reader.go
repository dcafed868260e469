package node

import (
	"ramble/api"
	"ramble/num"
)

// reader reads a node's form from the left; it keeps and changes none of its bytes. Once it has failed, nothing is left of them, and all that it reads is zero.
type reader struct {
	rest   []byte
	failed bool
}

func (r *reader) fail() { r.rest, r.failed = nil, true }

func (r *reader) node() api.Node {
	switch r.number() {
	case leafMark:
		return r.leaf()
	case innerMark:
		return r.inner()
	}
	r.fail()
	return api.Node{}
}

// leaf asks for no room by the count, which may be a lie: each cell takes bytes that must be there, or the reader fails.
func (r *reader) leaf() api.Node {
	n := api.Node{Leaf: true}
	for count := r.number(); count > 0 && !r.failed; count-- {
		n.Cells = append(n.Cells, r.cell())
	}
	return n
}

// inner trusts the count no more than leaf does.
func (r *reader) inner() api.Node {
	var n api.Node
	for count := r.number(); count > 0 && !r.failed; count-- {
		n.Keys = append(n.Keys, r.bytes())
	}
	for range len(n.Keys) + 1 {
		n.Kids = append(n.Kids, r.number())
	}
	return n
}

func (r *reader) cell() api.Cell {
	c := api.Cell{Key: r.bytes()}
	switch r.number() {
	case hereMark:
		c.Val = r.bytes()
	case overMark:
		c.Len = r.number()
		c.Over = r.number()
		// An Over of 0 is told by the other mark: it has no form here.
		if c.Over == 0 {
			r.fail()
		}
	default:
		r.fail()
	}
	return c
}

func (r *reader) bytes() []byte {
	length := r.number()
	if length > len(r.rest) {
		r.fail()
		return nil
	}
	b := copied(r.rest[:length])
	r.rest = r.rest[length:]
	return b
}

// number fails at numbers above maxLen, too: no form of a node that may be has such a one.
func (r *reader) number() int {
	u, length, e := num.Take(r.rest)
	if e != api.OK || u > maxLen {
		r.fail()
		return 0
	}
	r.rest = r.rest[length:]
	return int(u)
}
