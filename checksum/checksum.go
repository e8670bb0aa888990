// Package checksum puts a check sum behind bytes, and tells by it whether they were spoilt since.
package checksum

import "slices"

// polynomial is that of CRC-32, the lowest bit for the highest power: such a sum differs whenever one bit of the bytes does, wherever it stands.
const polynomial = 0xedb88320

// sum is a check sum, the highest byte first.
type sum [4]byte

// table has what four bits at the low end of the sum come to when they are shifted out.
var table [16]uint32

func init() {
	for i := range table {
		c := uint32(i)
		for range 4 {
			c = shifted(c)
		}
		table[i] = c
	}
}

func shifted(c uint32) uint32 {
	if c&1 == 1 {
		return c>>1 ^ polynomial
	}
	return c >> 1
}

func sumOf(data []byte) sum {
	c := ^uint32(0)
	for _, b := range data {
		c ^= uint32(b)
		c = c>>4 ^ table[c&15]
		c = c>>4 ^ table[c&15]
	}
	c = ^c
	return sum{byte(c >> 24), byte(c >> 16), byte(c >> 8), byte(c)}
}

// Seal is the bytes with their check sum behind them, in memory of its own.
func Seal(data []byte) []byte {
	s := sumOf(data)
	return slices.Concat(data, s[:])
}

// Open is the bytes ahead of the check sum, if it is theirs; they are a piece of what was handed in.
func Open(sealed []byte) (data []byte, ok bool) {
	var last sum
	if len(sealed) < len(last) {
		return nil, false
	}
	end := len(sealed) - len(last)
	copy(last[:], sealed[end:])
	if sumOf(sealed[:end]) != last {
		return nil, false
	}
	return sealed[:end:end], true
}
