package node

import (
	"ramble/api"
	"ramble/num"
)

// With these a node begins.
const (
	leafMark  = 1
	innerMark = 2
)

// With these a value begins.
const (
	hereMark = 0 // its bytes follow
	overMark = 1 // it stands in other pages
)

// Size is how many bytes a node's form has, be it one that may be or not. It is reckoned without laying the bytes out, since these may be far more than a page has room for.
func Size(n api.Node) int {
	if n.Leaf {
		size := headSize(len(n.Cells))
		for _, c := range n.Cells {
			size += cellSize(c)
		}
		return size
	}
	size := headSize(len(n.Keys))
	for _, key := range n.Keys {
		size += bytesSize(key)
	}
	for _, kid := range n.Kids {
		size += numberSize(kid)
	}
	return size
}

// headSize is how many bytes stand ahead of that many cells, or keys: the mark, and their count.
func headSize(count int) int { return 1 + numberSize(count) }

func cellSize(c api.Cell) int {
	size := bytesSize(c.Key) + 1
	if c.Over == 0 {
		return size + bytesSize(c.Val)
	}
	return size + numberSize(c.Len) + numberSize(c.Over)
}

func bytesSize(b []byte) int { return numberSize(len(b)) + len(b) }

func numberSize(n int) int { return len(num.Put(nil, uint64(n))) }

// Bytes is a node's form: Check's error; ErrLong, if no page has room for it.
func Bytes(n api.Node) ([]byte, api.Errno) {
	if e := Check(n); e != api.OK {
		return nil, e
	}
	if Size(n) > api.PageLen {
		return nil, api.ErrLong
	}
	if n.Leaf {
		return leafBytes(n), api.OK
	}
	return innerBytes(n), api.OK
}

func leafBytes(n api.Node) []byte {
	b := putNumber([]byte{leafMark}, len(n.Cells))
	for _, c := range n.Cells {
		b = putCell(b, c)
	}
	return b
}

func innerBytes(n api.Node) []byte {
	b := putNumber([]byte{innerMark}, len(n.Keys))
	for _, key := range n.Keys {
		b = putBytes(b, key)
	}
	for _, kid := range n.Kids {
		b = putNumber(b, kid)
	}
	return b
}

func putCell(b []byte, c api.Cell) []byte {
	b = putBytes(b, c.Key)
	if c.Over == 0 {
		return putBytes(append(b, hereMark), c.Val)
	}
	return putNumber(putNumber(append(b, overMark), c.Len), c.Over)
}

func putBytes(b, text []byte) []byte { return append(putNumber(b, len(text)), text...) }

// putNumber hands num.Put no bytes, since it would copy them all for each number.
func putNumber(b []byte, n int) []byte { return append(b, num.Put(nil, uint64(n))...) }

// Parse is the node whose form b is; ErrNode, if no node that may be, and has room in a page, has it.
func Parse(b []byte) (api.Node, api.Errno) {
	if len(b) > api.PageLen {
		return api.Node{}, api.ErrNode
	}
	r := &reader{rest: b}
	n := r.node()
	if r.failed || len(r.rest) > 0 || Check(n) != api.OK {
		return api.Node{}, api.ErrNode
	}
	return n, api.OK
}
