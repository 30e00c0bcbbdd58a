package frame

// What eight steps of the sum make of a remainder that has only its lowest four bits, or only the four above them.
// A step is linear under xor, so two short tables stand for one of 256 remainders.
var (
	lowBits = [16]uint32{
		0x00000000, 0xf26b8303, 0xe13b70f7, 0x1350f3f4,
		0xc79a971f, 0x35f1141c, 0x26a1e7e8, 0xd4ca64eb,
		0x8ad958cf, 0x78b2dbcc, 0x6be22838, 0x9989ab3b,
		0x4d43cfd0, 0xbf284cd3, 0xac78bf27, 0x5e133c24,
	}
	highBits = [16]uint32{
		0x00000000, 0x105ec76f, 0x20bd8ede, 0x30e349b1,
		0x417b1dbc, 0x5125dad3, 0x61c69362, 0x7198540d,
		0x82f63b78, 0x92a8fc17, 0xa24bb5a6, 0xb21572c9,
		0xc38d26c4, 0xd3d3e1ab, 0xe330a81a, 0xf36e6f75,
	}
)

// Sum is the CRC-32C of b.
func Sum(b []byte) uint32 {
	rest := ^uint32(0)
	for _, c := range b {
		x := byte(rest) ^ c
		rest = rest>>8 ^ lowBits[x&15] ^ highBits[x>>4]
	}
	return ^rest
}
