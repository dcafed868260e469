package node

import (
	"bytes"
	"slices"

	"ramble/api"
)

// Find is the place of the first cell whose key is not below key, and whether it is key. It goes from cell to cell, so that it is right where keys do not rise, too.
func Find(n api.Node, key []byte) (int, bool) {
	for at, c := range n.Cells {
		if order := bytes.Compare(c.Key, key); order >= 0 {
			return at, order == 0
		}
	}
	return len(n.Cells), false
}

// Child is how many of the Keys are not above key: the place of the kid in which key is, if it is anywhere.
func Child(n api.Node, key []byte) int {
	count := 0
	for _, k := range n.Keys {
		if bytes.Compare(k, key) <= 0 {
			count++
		}
	}
	return count
}

// Insert is n with c as a cell, in the place of the one that has its key, if Find finds one.
func Insert(n api.Node, c api.Cell) api.Node {
	at, is := Find(n, c.Key)
	if is {
		n.Cells = without(n.Cells, at)
	}
	n.Cells = with(n.Cells, at, c)
	return Clone(n)
}

// Remove is n without the first cell of that key, and whether there was one.
func Remove(n api.Node, key []byte) (api.Node, bool) {
	at := slices.IndexFunc(n.Cells, func(c api.Cell) bool { return bytes.Equal(c.Key, key) })
	if at < 0 {
		return Clone(n), false
	}
	n.Cells = without(n.Cells, at)
	return Clone(n), true
}

// Adopt is n with key at a place of the Keys, and kid behind the kid at that place; behind all kids, if there are fewer.
func Adopt(n api.Node, at int, key []byte, kid int) api.Node {
	at = within(at, len(n.Keys))
	n.Keys = with(n.Keys, at, key)
	n.Kids = with(n.Kids, min(at+1, len(n.Kids)), kid)
	return Clone(n)
}

// Disown is n without the kid at a place, and without the key ahead of it, of the first kid the one behind it, if n has that key.
func Disown(n api.Node, at int) api.Node {
	if len(n.Kids) == 0 {
		return Clone(n)
	}
	at = within(at, len(n.Kids)-1)
	n.Kids = without(n.Kids, at)
	if key := max(at-1, 0); key < len(n.Keys) {
		n.Keys = without(n.Keys, key)
	}
	return Clone(n)
}

// within is at, or the nearest one of the places from 0 to last.
func within(at, last int) int { return min(max(at, 0), last) }

// with is l with x ahead of a place. The third index leaves append no room, so that it goes to other memory, and l, which is somebody else's, stays as it is.
func with[T any](l []T, at int, x T) []T { return append(append(l[:at:at], x), l[at:]...) }

// without is l without what stands at a place; it may share l's memory, but l stays as it is, as in with.
func without[T any](l []T, at int) []T { return append(l[:at:at], l[at+1:]...) }
