package volume

import (
	"bytes"
	"errors"
	"testing"

	"store/api"
	"store/fault"
)

// sized is a device that says any number of blocks.
type sized struct {
	api.Device
	n int
}

func (s sized) Blocks() int { return s.n }

// keeper hands out its own memory, and keeps what it is handed.
type keeper struct {
	api.Device
	own  []byte
	kept [][]byte
}

func (k *keeper) Blocks() int                 { return api.MinBlocks }
func (k *keeper) Read(int) ([]byte, error)    { return k.own, nil }
func (k *keeper) Write(_ int, b []byte) error { k.kept = append(k.kept, b); return nil }

func TestSize(t *testing.T) {
	least, most := -1<<63, 1<<63-1
	for n, ok := range map[int]bool{least: false, -1: false, 0: false, 7: false, 8: true, 9: true, 399: true, 400: true, 401: false, most: false} {
		err := fault.Catch("On", func() { On(sized{n: n}) })
		if ok && err != nil || !ok && !errors.Is(err, api.ErrSize) {
			t.Errorf("P3, P4: %d blocks: %v", n, err)
		}
	}
}

// fickle is a device that says another number each time.
type fickle struct {
	api.Device
	asked int
}

func (f *fickle) Blocks() int { f.asked++; return 19 + f.asked }

func TestSizeIsAskedOnce(t *testing.T) {
	f := &fickle{}
	v := On(f)
	if v.Size() != 20 || v.Size() != 20 || f.asked != 1 {
		t.Errorf("P2: %d blocks, asked %d times", v.Size(), f.asked)
	}
}

func TestNoDevice(t *testing.T) {
	for _, d := range []api.Device{nil, (*api.Disk)(nil), sized{}} {
		if err := fault.Catch("On", func() { On(d) }); !errors.Is(err, api.ErrSize) {
			t.Errorf("P1: no device: %v", err)
		}
	}
}

func TestBlockIsCopied(t *testing.T) {
	for _, n := range []int{0, 1, api.Block - 1, api.Block, api.Block + 1, 3 * api.Block} {
		k := &keeper{own: bytes.Repeat([]byte{7}, n)}
		b := On(k).Block(0)
		want := make([]byte, api.Block)
		copy(want, k.own)
		if !bytes.Equal(b[:], want) {
			t.Errorf("P1: of %d bytes the block is %v", n, b)
		}
		b[0] = 9
		if n > 0 && k.own[0] != 7 {
			t.Error("P2: the device's memory was changed")
		}
	}
}

func TestLaidIsTheDevices(t *testing.T) {
	k := &keeper{}
	v := On(k)
	var b [api.Block]byte
	b[0] = 1
	v.Lay(2, b)
	b[0] = 2
	v.Lay(3, b)
	if len(k.kept) != 2 || k.kept[0][0] != 1 || k.kept[1][0] != 2 || len(k.kept[0]) != api.Block {
		t.Errorf("P2: what was written is %v", k.kept)
	}
}

func TestErrorsAreThrown(t *testing.T) {
	d := api.NewDisk(8)
	v := On(d)
	d.Off(0)
	var none [api.Block]byte
	for _, work := range []func(){func() { v.Block(0) }, func() { v.Lay(0, none) }, v.Settle} {
		if err := fault.Catch("Work", work); !errors.Is(err, api.ErrIO) {
			t.Errorf("P1: the device told an error: %v", err)
		}
	}
}

func TestSettle(t *testing.T) {
	d := api.NewDisk(8)
	v := On(d)
	var b [api.Block]byte
	b[5] = 5
	v.Lay(3, b)
	if d.Pending() != 1 || v.Block(3) != b || v.Block(2) == b {
		t.Error("Lay writes one block, and Block gives it")
	}
	v.Settle()
	if d.Pending() != 0 || d.Bytes()[3*api.Block+5] != 5 {
		t.Error("P3: Settle makes sure of what was laid")
	}
}
