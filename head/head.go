// Package head: the two blocks that say what counts on a device.
//
// Each of the first two blocks holds a head, and the newer one counts. A head fills no more than one sector, so that a failure of power leaves the old head or the new one, never a mixture.
package head

import (
	"store/api"
	"store/pack"
	"store/volume"
)

// Count is the number of heads, and of the first block that is none.
const Count = 2

// Where the parts of a head begin in its sector. What lies between the root and the sum is noughts.
const (
	mark   = "store 1\n"
	turnAt = len(mark)
	rootAt = turnAt + 8
	rootTo = rootAt + 2
)

// Head is the state of a store that was laid down as the turn-th. The count goes round behind the greatest number.
type Head struct {
	turn uint64
	root int
}

// Root tells in which block the root of the store's tree lies.
func (h Head) Root() int { return h.root }

// Next is the head behind h, of a tree with this root.
func (h Head) Next(root int) Head { return Head{turn: h.turn + 1, root: root} }

// block tells where h lies: never where the one ahead of it lies, which has to stay until h is sure.
func (h Head) block() int { return int(h.turn % Count) }

// newer holds two heads against each other as if the count had no end. Two that lie in different blocks are never the same.
func (h Head) newer(g Head) bool { return int64(h.turn-g.turn) > 0 }

// Lay writes a head and makes sure of it.
func Lay(v *volume.Volume, h Head) {
	var b [api.Block]byte
	s := h.sector()
	copy(b[:], s[:])
	v.Lay(h.block(), b)
	v.Settle()
}

// Newest gives the newer one of the heads that are whole (if none is, the one ahead of all), and tells whether both are whole.
func Newest(v *volume.Volume) (newest Head, both bool) {
	even, hasEven := read(v, 0)
	odd, hasOdd := read(v, 1)
	switch {
	case hasEven && hasOdd && odd.newer(even):
		return odd, true
	case hasEven:
		return even, hasOdd
	case hasOdd:
		return odd, false
	}
	return Head{}, false
}

// read gives the head that lies in a block, and tells whether it is whole. Only its sector counts: a failure of power may have left anything in the others.
func read(v *volume.Volume, i int) (h Head, whole bool) {
	b := v.Block(i)
	h = Head{turn: pack.Number(b[turnAt:rootAt]), root: int(pack.Number(b[rootAt:rootTo]))}
	if h.block() != i || h.sector() != [api.Sector]byte(b[:api.Sector]) {
		return Head{}, false
	}
	return h, true
}

// sector is h as it lies on the device.
func (h Head) sector() [api.Sector]byte {
	var s [api.Sector]byte
	copy(s[:], mark)
	pack.Put(s[turnAt:rootAt], h.turn)
	pack.Put(s[rootAt:rootTo], uint64(h.root))
	pack.Seal(s[:])
	return s
}
