package store_test

import (
	"errors"
	"math/rand"
	"testing"

	"store/api"
	"store/pack"
	"store/store"
)

// One bit of what is sure is turned: what is found then was there at some time as a whole.
func TestTurnedBitsBehindSyncs(t *testing.T) {
	r := rand.New(rand.NewSource(15))
	for _, keys := range []int{1, 9} {
		d := formatted(t, 3*keys+12)
		s, m := open(t, d), map[string]string{}
		were := []string{content(t, s)}
		for range 10 {
			stir(t, r, s, m, keys, 1+r.Intn(keys))
			synced(t, s)
			were = append(were, content(t, s))
		}
		for bit := range 8 * api.Block * d.Blocks() {
			s, err := store.Open(d.Turned(bit))
			if tells(t, "P13: a bit turned", err, api.OK, api.ErrCorrupt); err == nil {
				may(t, "a bit turned", content(t, s), were...)
			}
		}
	}
}

// twisted is a device like d, of which some bytes are others, with right sums.
func twisted(r *rand.Rand, d *api.Disk) *api.Disk {
	b := []byte(d.Bytes())
	for range 1 + r.Intn(3) {
		i := r.Intn(8 + r.Intn(d.Blocks()-7))
		block := b[i*api.Block : (i+1)*api.Block]
		if i < 2 {
			block = block[:api.Sector]
		}
		switch from := r.Intn(d.Blocks()); r.Intn(5) {
		case 0:
			copy(block, b[from*api.Block:(from+1)*api.Block])
		case 1:
			block[r.Intn(2)] = []byte("\x00\x01\x02\x0b\xffLB")[r.Intn(7)]
		case 2:
			block[r.Intn(len(block))] = byte(r.Intn(d.Blocks()))
		default:
			block[r.Intn(len(block))] += byte(r.Intn(3))
		}
		pack.Seal(block)
	}
	return api.Laid(d.Blocks(), string(b))
}

// Whatever a device has on it, Open answers; if it is with a store, its keys rise, and it can be changed, synced, and found again, though there may be no room.
func TestNonsense(t *testing.T) {
	r := rand.New(rand.NewSource(16))
	opened := 0
	for _, keys := range []int{1, 6, 25, 100} {
		d := formatted(t, 3*keys+12)
		s, m := open(t, d), map[string]string{}
		for range 5 {
			stir(t, r, s, m, keys, keys)
			synced(t, s)
		}
		for range 1500 {
			odd := twisted(r, d)
			s, err := store.Open(odd)
			if tells(t, "P13: nonsense", err, api.OK, api.ErrCorrupt); err != nil {
				continue
			}
			opened++
			before := ""
			for p, err := range s.All("", behind) {
				if err != nil || p.Key <= before || len(p.Key) > api.MaxKey || len(p.Value) > api.MaxValue {
					t.Fatalf("P13: nonsense: behind %q comes %q, %v", before, p, err)
				}
				gets(t, "P13: nonsense", s, p.Key, p.Value, true)
				before = p.Key
			}
			sane(t, odd, s)
		}
	}
	if opened == 0 {
		t.Error("no nonsense was taken for a store: the test asks nothing")
	}
}

// sane fails unless a store on a device of nonsense does what it should.
func sane(t *testing.T, d *api.Disk, s *store.Store) {
	t.Helper()
	old := content(t, s)
	tells(t, "P13: nonsense: Put", s.Put("sane", "1"), api.OK, api.ErrSpace)
	tells(t, "P13: nonsense: Delete", s.Delete(number(0)), api.OK)
	next, err := content(t, s), s.Sync()
	if tells(t, "P13: nonsense: Sync", err, api.OK, api.ErrSpace); errors.Is(err, api.ErrSpace) {
		may(t, "nonsense, no room", found(t, d), old, next)
	} else {
		may(t, "nonsense, synced", found(t, d.After(nil)), next)
	}
}
