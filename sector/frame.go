package sector

import (
	"bytes"

	"ramble/api"
)

// Where the parts of a frame stand in its sector; between the room for Pay and the sum are two bytes 0.
const (
	kindAt = 0
	lenAt  = 1
	nAt    = 2
	payAt  = 10
	sumAt  = api.SectorLen - sumLen
)

const maxKind = 255

// Seal is the sector that a frame stands in.
func Seal(f api.Frame) (api.Sector, api.Errno) {
	if f.Kind < 1 || f.Kind > maxKind || f.N < 0 || len(f.Pay) > api.MaxPay {
		return api.Sector{}, api.ErrArg
	}
	var s api.Sector
	s[kindAt] = byte(f.Kind)
	s[lenAt] = byte(len(f.Pay))
	putN(s[nAt:payAt], f.N)
	copy(s[payAt:], f.Pay)
	sum := bytesOf(Sum(s[:sumAt]))
	copy(s[sumAt:], sum[:])
	return s, api.OK
}

// Open is the frame whose Seal s is: what s says is sealed again and held against s whole, so that zeros, sum and limits are looked at at once.
func Open(s api.Sector) (api.Frame, api.Errno) {
	if s[lenAt] > api.MaxPay {
		return api.Frame{}, api.ErrFrame
	}
	f := api.Frame{
		Kind: int(s[kindAt]),
		N:    takeN(s[nAt:payAt]),
		Pay:  bytes.Clone(s[payAt : payAt+int(s[lenAt])]),
	}
	if again, e := Seal(f); e != api.OK || again != s {
		return api.Frame{}, api.ErrFrame
	}
	return f, api.OK
}

// putN fills b with n, the highest byte first.
func putN(b []byte, n int64) {
	for i := len(b) - 1; i >= 0; i-- {
		b[i] = byte(n)
		n >>= 8
	}
}

// takeN is the number that fills b; it is below 0, if no N of a frame does.
func takeN(b []byte) int64 {
	var u uint64
	for _, c := range b {
		u = u<<8 | uint64(c)
	}
	return int64(u)
}
