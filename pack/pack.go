// Package pack: numbers in bytes, and the sum by which bytes tell that they are whole.
package pack

// SumSize is the length of a sum.
const SumSize = 4

// Put lays a number into bytes, the lowest first; Number takes it out.
func Put(to []byte, n uint64) {
	for i := range to {
		to[i] = byte(n >> (8 * i))
	}
}

// Number is what Put laid.
func Number(b []byte) uint64 {
	var n uint64
	for i, x := range b {
		n |= uint64(x) << (8 * i)
	}
	return n
}

// Seal lays at the end of b the sum of what is ahead of it.
func Seal(b []byte) {
	end := len(b) - SumSize
	Put(b[end:], uint64(sum(b[:end])))
}

// sum is CRC-32, which no turning of one bit leaves as it was.
func sum(b []byte) uint32 {
	s := ^uint32(0)
	for _, x := range b {
		s ^= uint32(x)
		for range 8 {
			s = s>>1 ^ 0xEDB88320&-(s&1)
		}
	}
	return ^s
}
