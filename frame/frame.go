// Package frame is layer 2: see ../../shared/doc/02-frame.md.
package frame

import (
	"scholia/api"
)

// size is how many bytes a sum has.
const size = 4

// left is what each single bit of a byte, its lowest one first, leaves of a sum behind eight shifts; several bits leave the xor of what each of them leaves.
var left = [8]uint32{
	0x77073096, 0xEE0E612C, 0x076DC419, 0x0EDB8832,
	0x1DB71064, 0x3B6E20C8, 0x76DC4190, 0xEDB88320,
}

// Sum is the sum of bytes.
func Sum(b []byte) uint32 {
	sum := ^uint32(0)
	for i := range len(b) {
		out := sum&0xFF ^ uint32(b[i])
		sum >>= 8
		for bit := range len(left) {
			if out>>bit&1 == 1 {
				sum ^= left[bit]
			}
		}
	}
	return ^sum
}

// Seal is bytes with their sum ahead.
func Seal(b []byte) []byte {
	sum := Sum(b)
	out := make([]byte, 0, size+len(b))
	for i := range size {
		out = append(out, byte(sum>>(8*(size-1-i))))
	}
	return append(out, b...)
}

// Open is what was sealed.
func Open(b []byte) ([]byte, api.Errno) {
	if len(b) < size {
		return nil, api.ESHORT
	}
	sum := uint32(0)
	for i := range size {
		sum = sum<<8 | uint32(b[i])
	}
	if sum != Sum(b[size:]) {
		return nil, api.ESUM
	}
	return append([]byte(nil), b[size:]...), api.OK
}
