package sector

const sumLen = 4

// fours has of each remainder of four bits what is left of it when all of them were shifted out: so eight steps of a byte are two.
var fours = [16]uint32{
	0x00000000, 0x1db71064, 0x3b6e20c8, 0x26d930ac,
	0x76dc4190, 0x6b6b51f4, 0x4db26158, 0x5005713c,
	0xedb88320, 0xf00f9344, 0xd6d6a3e8, 0xcb61b38c,
	0x9b64c2b0, 0x86d3d2d4, 0xa00ae278, 0xbdbdf21c,
}

// Sum is the CRC-32 of some bytes.
func Sum(b []byte) uint32 {
	rest := ^uint32(0)
	for _, c := range b {
		rest ^= uint32(c)
		rest = rest>>4 ^ fours[rest&15]
		rest = rest>>4 ^ fours[rest&15]
	}
	return ^rest
}

// bytesOf is a sum as it stands in a sector, the lowest byte first: with this order, damage of up to 32 bits in a row that reaches into the sum is found as any other.
func bytesOf(sum uint32) [sumLen]byte {
	var b [sumLen]byte
	for i := range b {
		b[i] = byte(sum)
		sum >>= 8
	}
	return b
}
