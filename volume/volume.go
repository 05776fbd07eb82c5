// Package volume: a device on which work goes on until it throws, with no asking behind each step.
package volume

import (
	"strconv"

	"store/api"
	"store/fault"
)

// Volume is a device of a size that can hold a store.
type Volume struct {
	api.Device
	size int
}

// On takes a device, or throws ErrSize.
func On(d api.Device) *Volume {
	n := count(d)
	if n < api.MinBlocks || n > api.MaxBlocks {
		fault.Throw("size", api.ErrSize)
	}
	return &Volume{Device: d, size: n}
}

// Size tells how many blocks there are, without asking the device anew: it might throw, or say another number.
func (v *Volume) Size() int { return v.size }

// count takes a device that cannot even say how many blocks it has (there may be no device at all) for one that has none.
func count(d api.Device) (n int) {
	defer func() {
		if recover() != nil {
			n = 0
		}
	}()
	return d.Blocks()
}

// Block gives a block. It is a copy, since the bytes that a device hands out may be its own; if they are too few, noughts stand behind them.
func (v *Volume) Block(i int) [api.Block]byte {
	got, err := v.Read(i)
	if err != nil {
		fault.Throw("read of block "+strconv.Itoa(i), api.ErrIO)
	}
	var b [api.Block]byte
	copy(b[:], got)
	return b
}

// Lay writes a block. The device gets bytes of its own: it may keep them.
func (v *Volume) Lay(i int, b [api.Block]byte) {
	if err := v.Write(i, b[:]); err != nil {
		fault.Throw("write of block "+strconv.Itoa(i), api.ErrIO)
	}
}

// Settle makes sure of all that was laid.
func (v *Volume) Settle() {
	if err := v.Flush(); err != nil {
		fault.Throw("flush", api.ErrIO)
	}
}
