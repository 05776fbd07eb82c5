package head

import (
	"math"
	"testing"

	"store/api"
	"store/fault"
	"store/pack"
	"store/volume"
)

// laid is a disk on which these heads are sure, in this order.
func laid(turns ...uint64) *api.Disk {
	d := api.NewDisk(api.MinBlocks)
	for _, n := range turns {
		Lay(volume.On(d), Head{turn: n})
	}
	return d
}

func newest(d *api.Disk) (uint64, bool) {
	h, both := Newest(volume.On(d))
	return h.turn, both
}

func TestNewest(t *testing.T) {
	for _, c := range []struct {
		turns []uint64
		want  uint64
		both  bool
	}{
		{nil, 0, false},
		{[]uint64{1}, 1, false},
		{[]uint64{2}, 2, false},
		{[]uint64{1, 2}, 2, true},
		{[]uint64{1, 2, 3}, 3, true},
		{[]uint64{1, 2, 3, 4}, 4, true},
		{[]uint64{2, 9}, 9, true},
		{[]uint64{255, 256}, 256, true},
		{[]uint64{math.MaxUint64 - 1, math.MaxUint64}, math.MaxUint64, true},
		{[]uint64{math.MaxUint64, 0}, 0, true},
		{[]uint64{0, math.MaxUint64}, 0, true},
		{[]uint64{math.MaxInt64, math.MaxInt64 + 1}, math.MaxInt64 + 1, true},
	} {
		if n, both := newest(laid(c.turns...)); n != c.want || both != c.both {
			t.Errorf("P4: laid %v: newest %d, both %v", c.turns, n, both)
		}
	}
}

// Wherever the count stands, the head behind the newest counts as soon as it is sure.
func TestNextCounts(t *testing.T) {
	starts := []uint64{0, 1, 2, math.MaxInt64 - 1, math.MaxInt64, math.MaxInt64 + 1, math.MaxUint64 - 1, math.MaxUint64}
	for _, a := range starts {
		for _, b := range starts {
			d := laid(a, b)
			h, _ := Newest(volume.On(d))
			for range 3 {
				h = h.Next(0)
				Lay(volume.On(d), h)
				if n, _ := newest(d); n != h.turn || d.Pending() != 0 {
					t.Fatalf("P3: %d and %d were there, %d was laid: newest %d", a, b, h.turn, n)
				}
			}
		}
	}
}

// A head brings its root with it, and only its own.
func TestRoot(t *testing.T) {
	d := laid(5, 6)
	h, _ := Newest(volume.On(d))
	for _, root := range []int{2, 0, 255, 256, 399, 0} {
		h = h.Next(root)
		Lay(volume.On(d), h)
		if got, both := Newest(volume.On(d.After(nil))); got != h || got.Root() != root || !both {
			t.Errorf("P8: a head with root %d comes back as %v", root, got)
		}
	}
}

func TestLayout(t *testing.T) {
	b := make([]byte, api.Sector)
	copy(b, "store 1\n\x05\x00\x00\x00\x00\x00\x00\x01\x8f\x01")
	pack.Seal(b)
	d := api.NewDisk(api.MinBlocks)
	Lay(volume.On(d), Head{turn: 1<<56 + 5, root: 399})
	if got := d.Bytes()[api.Block : 2*api.Block]; got != string(b)+string(make([]byte, api.Block-api.Sector)) {
		t.Errorf("a head is laid as %q, want %q", got, b)
	}
}

// A new head takes the place of the elder one, and whatever survives of it, the newest stays or the new one is there.
func TestCutOff(t *testing.T) {
	for calls := range 2 {
		for keep := range 16 {
			d := laid(5, 6)
			d.Off(calls)
			if err := fault.Catch("Lay", func() { Lay(volume.On(d), Head{turn: 7}) }); err == nil {
				t.Fatal("the power failed, and Lay tells nothing")
			}
			want := uint64(6)
			if calls == 1 && keep&1 == 1 {
				want = 7
			}
			if n, both := newest(d.After([]int{keep})); n != want || !both {
				t.Errorf("P3: off behind %d calls, survivors %b: newest %d, both %v", calls, keep, n, both)
			}
		}
	}
}

func TestTurnedBits(t *testing.T) {
	d := laid(5, 6)
	for bit := range 8 * api.Block * api.MinBlocks {
		at, in := bit/8/api.Block, bit/8%api.Block
		n, both := newest(d.Turned(bit))
		want, whole := uint64(6), true
		if at < 2 && in < api.Sector {
			want, whole = uint64(6-1+at), false
		}
		if n != want || both != whole {
			t.Errorf("P4: bit %d turned: newest %d, both %v", bit, n, both)
		}
	}
}

func TestWrongBlock(t *testing.T) {
	b := laid(5, 6).Bytes()
	even, odd, rest := b[:api.Block], b[api.Block:2*api.Block], b[2*api.Block:]
	for _, c := range []struct {
		bytes string
		want  uint64
	}{{odd + even + rest, 0}, {even + even + rest, 6}, {odd + odd + rest, 5}} {
		if n, both := newest(api.Laid(api.MinBlocks, c.bytes)); n != c.want || both {
			t.Errorf("P4: a head in the wrong block counts: newest %d, both %v", n, both)
		}
	}
}
