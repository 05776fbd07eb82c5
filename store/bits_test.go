package store_test

import (
	"fmt"
	"iter"
	"math/rand"
	"testing"

	"store/api"
	"store/head"
	"store/store"
)

const bitsOfBlock = 8 * api.Block

// allBits gives each bit of a device.
func allBits(d *api.Disk) iter.Seq[int] {
	return func(yield func(bit int) bool) {
		for bit := range bitsOfBlock * d.Blocks() {
			if !yield(bit) {
				return
			}
		}
	}
}

// someBits gives n bits of a device: one in two lies in a head, one in four in one of the first blocks behind the heads, which are used most.
func someBits(r *rand.Rand, d *api.Disk, n int) iter.Seq[int] {
	return func(yield func(bit int) bool) {
		for i := range n {
			bit := r.Intn(bitsOfBlock * d.Blocks())
			switch i % 4 {
			case 0, 1:
				bit = r.Intn(head.Count)*bitsOfBlock + r.Intn(8*api.Sector)
			case 2:
				bit %= bitsOfBlock * api.MinBlocks
			}
			if !yield(bit) {
				return
			}
		}
	}
}

// ended fails unless a Format makes an end of whatever a device has on it.
func ended(t *testing.T, what string, d *api.Disk) {
	t.Helper()
	tells(t, "P3: "+what+": Format", store.Format(d), api.OK)
	if holds(t, what+", formatted", open(t, d), nil); d.Pending() != 0 {
		t.Errorf("P3: %s, formatted: %d writes are not sure", what, d.Pending())
	}
}

// turned turns these bits of what is sure, one at a time: what is found then was there at some time as a whole, and a Format makes an end of it. It tells how often something was found, and how often not.
func turned(t *testing.T, what string, d *api.Disk, bits iter.Seq[int], were []string) (finds, none int) {
	t.Helper()
	for bit := range bits {
		what := fmt.Sprintf("P13: %s, bit %d turned", what, bit)
		e := d.Turned(bit)
		s, err := store.Open(e)
		tells(t, what+": Open", err, api.OK, api.ErrCorrupt)
		if none++; err == nil {
			none--
			finds++
			may(t, what, content(t, s), were...)
		}
		if ended(t, what, e); t.Failed() {
			t.FailNow()
		}
	}
	return finds, none
}

// past is a device on which a store was synced many times, with all that was laid down since the Format.
func past(t *testing.T, r *rand.Rand, blocks, keys, syncs int) (*api.Disk, []string) {
	t.Helper()
	d := formatted(t, blocks)
	s, m := open(t, d), map[string]string{}
	were := []string{content(t, s)}
	for i := range syncs {
		stir(t, r, s, m, keys, 1+r.Intn(1+keys/(1+i%4)))
		synced(t, s)
		were = append(were, content(t, s))
	}
	return d, were
}

// Each bit in its turn; on the greatest device some of them.
func TestTurnedBitsBehindSyncs(t *testing.T) {
	for _, c := range []struct{ blocks, keys, syncs int }{{8, 0, 1}, {8, 1, 9}, {8, 6, 30}, {20, 8, 30}, {102, 30, 40}, {400, 129, 60}} {
		t.Run(fmt.Sprint(c), func(t *testing.T) {
			t.Parallel()
			r := rand.New(rand.NewSource(15))
			d, were := past(t, r, c.blocks, max(c.keys, 1), c.syncs*min(c.keys, 1))
			bits := allBits(d)
			if c.blocks == 400 {
				bits = someBits(r, d, 6000)
			}
			if finds, none := turned(t, "synced", d, bits, were); finds == 0 || none == 0 {
				t.Errorf("%d times something is found, %d times nothing: the test asks too little", finds, none)
			}
		})
	}
}

// were are all contents that were laid down ahead of the scene's Sync, the last of them by c.sure's last Sync.
func (c scene) were(t *testing.T) []string {
	t.Helper()
	return []string{found(t, formatted(t, 8)), `[{"gone" ""}]`, found(t, c.sure(t))}
}

// A Sync is cut off, or told an error; the power fails, and then a bit is turned.
func TestTurnedBitsBehindFailedSyncs(t *testing.T) {
	for _, c := range scenes() {
		t.Run(c.name, func(t *testing.T) {
			t.Parallel()
			r := rand.New(rand.NewSource(19))
			were := c.were(t)
			turn := func(left *api.Disk, next ...string) {
				turned(t, c.name, left, someBits(r, left, 40), append(next, were...))
			}
			c.errors(t, func(f *faulty, all []string) {
				left(t, r, c.name, f.Disk, all, func(left *api.Disk) { turn(left, all...) })
			})
			next := open(t, c.sure(t))
			c.change(next)
			cut(t, r, c.name, c.sure(t), c.change, func(left *api.Disk) { turn(left, content(t, next)) })
		})
	}
}

// A Format is cut off, or told an error; the power fails, and then a bit is turned.
func TestTurnedBitsBehindFailedFormats(t *testing.T) {
	for _, c := range scenes() {
		t.Run(c.name, func(t *testing.T) {
			t.Parallel()
			r := rand.New(rand.NewSource(20))
			were := c.were(t)
			for _, n := range []int{1, forever} {
				for at := 0; ; at++ {
					f := &faulty{Disk: c.sure(t)}
					f.bad(at, n)
					if store.Format(f); f.told == 0 {
						break
					}
					for keep := range choices(f.Pending(), r) {
						left := f.After(keep)
						turned(t, c.name+", Format", left, someBits(r, left, 40), were)
					}
				}
			}
		})
	}
}

// used tells which blocks an Open reads.
func used(t *testing.T, d *api.Disk) map[int]int {
	t.Helper()
	blocks := map[int]int{}
	open(t, &other{Device: d, read: func(i int) ([]byte, error) { blocks[i]++; return d.Read(i) }})
	return blocks
}

// The elder head still leads to blocks of which a Sync that was cut off has used some again: what lies there now is of another time, and whole by itself. A bit that is turned in the newer head, or anywhere, must not bring that to light.
func TestTurnedBitsOfBlocksUsedAgain(t *testing.T) {
	const blocks, keys = 42, 12
	for first := 0; first < keys; first += 2 {
		t.Run(fmt.Sprint(first), func(t *testing.T) {
			t.Parallel()
			d := formatted(t, blocks)
			s := open(t, d)
			were := []string{content(t, s)}
			put(0, keys, longest)(s)
			synced(t, s)
			were = append(were, content(t, s))
			elder, bytes := used(t, d), d.Bytes()
			put(first, first+1, "1")(s)
			synced(t, s)
			were = append(were, content(t, s))
			put(first/2, keys, "2")(s)
			were = append(were, content(t, s))
			f := &other{Device: d, write: func(i int, b []byte) error {
				if i < head.Count {
					return api.ErrIO
				}
				return d.Write(i, b)
			}}
			s = open(t, f)
			put(first/2, keys, "2")(s)
			tells(t, "P8: Sync, no head written", s.Sync(), api.ErrIO)
			again := 0
			for at := range elder {
				if at >= head.Count && d.Bytes()[at*api.Block:(at+1)*api.Block] != bytes[at*api.Block:(at+1)*api.Block] {
					again++
				}
			}
			if again == 0 {
				t.Error("no block was used again: the test asks nothing")
			}
			turned(t, "blocks used again", d, allBits(d), were)
		})
	}
}

// Behind a Format nothing leads back to what was there: neither a bit that was turned ahead of it, nor one that is turned behind it.
func TestTurnedBitsAboutFormat(t *testing.T) {
	r := rand.New(rand.NewSource(21))
	d, _ := past(t, r, 60, 15, 20)
	for ahead := range someBits(r, d, 200) {
		e := d.Turned(ahead)
		tells(t, "P3: a bit turned: Format", store.Format(e), api.OK)
		turned(t, "formatted", e, someBits(r, e, 40), []string{found(t, formatted(t, 8))})
	}
}
