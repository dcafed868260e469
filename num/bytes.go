package num

import (
	"slices"

	"ramble/api"
)

const (
	groupBits = 7
	more      = 1 << groupBits // what is added to a byte behind which another one stands
	maxGroups = 10             // that many groups a uint64 has at most
	topGroup  = 1              // the tenth group has but one bit of a uint64
)

// Put is b's bytes with u behind them, in groups of 7 bits, the lowest first, in as few bytes as can be.
func Put(b []byte, u uint64) []byte {
	out := slices.Clone(b)
	for ; u >= more; u >>= groupBits {
		out = append(out, byte(u)|more)
	}
	return append(out, byte(u))
}

// Take is the number whose Put b begins with, and how many bytes that has.
// ErrEnds, if no byte of b ends a number; ErrForm, if one ends there that is no Put of a uint64.
func Take(b []byte) (uint64, int, api.Errno) {
	last := slices.IndexFunc(b, func(c byte) bool { return c < more })
	if last < 0 {
		return 0, 0, api.ErrEnds
	}
	groups := b[:last+1]
	if !inForm(groups) {
		return 0, 0, api.ErrForm
	}
	var u uint64
	for i, c := range groups {
		u |= uint64(c%more) << (groupBits * i)
	}
	return u, len(groups), api.OK
}

// inForm tells whether groups, of which there is one at least, are those of a uint64, and no fewer would do.
func inForm(groups []byte) bool {
	last := groups[len(groups)-1]
	switch {
	case len(groups) > maxGroups:
		return false
	case len(groups) == maxGroups && last > topGroup:
		return false
	}
	return last != 0 || len(groups) == 1
}

// Zig is a number with a sign as one without: 0, -1, 1, -2, .. are 0, 1, 2, 3, ..
func Zig(n int64) uint64 { return uint64(n)<<1 ^ signBits(n) }

// Zag is the number whose Zig u is.
func Zag(u uint64) int64 { return int64(u>>1) ^ -int64(u&1) }
