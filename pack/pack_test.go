package pack

import (
	"hash/crc32"
	"math"
	"testing"
)

func TestNumber(t *testing.T) {
	for _, n := range []uint64{0, 1, 255, 256, 1 << 31, 0x0102030405060708, math.MaxUint64} {
		for size := range 9 {
			b := make([]byte, size)
			Put(b, n)
			want := n
			if size < 8 {
				want = n & (1<<(8*size) - 1)
			}
			if Number(b) != want {
				t.Errorf("%d comes out of %d bytes as %d", n, size, Number(b))
			}
		}
	}
	b := []byte{0, 0}
	if Put(b, 0x0102); b[0] != 2 || b[1] != 1 {
		t.Errorf("the lowest byte comes first, not %v", b)
	}
}

func TestSeal(t *testing.T) {
	for n := range 140 {
		b := make([]byte, n+SumSize)
		for i := range b {
			b[i] = byte(i*i*31 + n)
		}
		ahead := string(b[:n])
		Seal(b)
		if got, want := Number(b[n:]), uint64(crc32.ChecksumIEEE([]byte(ahead))); got != want || string(b[:n]) != ahead {
			t.Errorf("sum of %d bytes: %x, want %x", n, got, want)
		}
	}
}
