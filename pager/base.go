package pager

import (
	"math/bits"

	"ramble/api"
)

const (
	byteBits = 8
	wordLen  = 8
)

// base is what the page 0 has: which pages are not free, and the words. The page 0 itself never is free.
type base struct {
	taken [api.MaxPages / byteBits]byte
	words [api.MaxWords]int64
}

// emptyBase is that of pages that are all free.
func emptyBase() base {
	var b base
	b.put(0)
	return b
}

func (b *base) has(page int) bool { return b.taken[page/byteBits]>>(page%byteBits)&1 == 1 }

func (b *base) put(page int) { b.taken[page/byteBits] |= 1 << (page % byteBits) }

func (b *base) take(page int) { b.taken[page/byteBits] &^= 1 << (page % byteBits) }

// leastFree is the least page that is free, whether there are so many pages or not.
func (b *base) leastFree() int {
	for i, c := range b.taken {
		if c != 1<<byteBits-1 {
			return i*byteBits + bits.TrailingZeros8(^c)
		}
	}
	return api.MaxPages
}

// count is how many pages are not free.
func (b *base) count() int {
	count := 0
	for _, c := range b.taken {
		count += bits.OnesCount8(c)
	}
	return count
}

// takenLen is how many bytes tell of so many pages which are free.
func takenLen(pages int) int { return (pages + byteBits - 1) / byteBits }

// bytes is the page 0's bytes, where there are so many pages.
func (b *base) bytes(pages int) []byte {
	out := make([]byte, takenLen(pages), takenLen(pages)+api.MaxWords*wordLen)
	copy(out, b.taken[:])
	for _, n := range b.words {
		var word [wordLen]byte
		for i := range word {
			word[i] = byte(n >> (byteBits * (wordLen - 1 - i)))
		}
		out = append(out, word[:]...)
	}
	return out
}

// baseOf is what the page 0 has whose bytes l is, where there are so many pages; false, if l is no such page's.
func baseOf(l []byte, pages int) (base, bool) {
	if len(l) != takenLen(pages)+api.MaxWords*wordLen {
		return base{}, false
	}
	var b base
	words := l[copy(b.taken[:], l[:takenLen(pages)]):]
	for i := range b.words {
		for _, c := range words[i*wordLen : (i+1)*wordLen] {
			b.words[i] = b.words[i]<<byteBits | int64(c)
		}
	}
	// Of pages that there are not, none is taken.
	for page := pages; page < takenLen(pages)*byteBits; page++ {
		if b.has(page) {
			return base{}, false
		}
	}
	if !b.has(0) {
		return base{}, false
	}
	return b, true
}
