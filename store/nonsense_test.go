package store_test

import (
	"errors"
	"fmt"
	"maps"
	"math"
	"math/rand"
	"slices"
	"strings"
	"testing"

	"store/api"
	"store/head"
	"store/pack"
	"store/store"
	"store/tree"
	"store/volume"
)

// whatever fails unless Open answers as P13 says of bytes of which nothing is known: with ErrCorrupt, or with a store that keeps the promises from then on. What is on the device is sure. It tells whether a store was found.
func whatever(t *testing.T, r *rand.Rand, what string, d *api.Disk) bool {
	t.Helper()
	d, before := d.After(nil), d.Bytes()
	s, err := store.Open(d)
	tells(t, "P13: "+what+": Open", err, api.OK, api.ErrCorrupt)
	if (s == nil) != (err != nil) {
		t.Errorf("P1: %s: Open: a store: %v, beside %v", what, s != nil, err)
	}
	if d.Told() != 0 || d.Writes() != 0 || d.Bytes() != before {
		t.Errorf("P4: %s: Open writes, or asks for a block that is not there", what)
	}
	if err == nil {
		keeps(t, r, what, d, s)
	}
	if ended(t, what, api.Laid(d.Blocks(), before)); t.Failed() {
		t.FailNow()
	}
	return err == nil
}

// risen is what a store has; it fails unless its keys rise, and it has keys and values alone.
func risen(t *testing.T, what string, s *store.Store) map[string]string {
	t.Helper()
	m, last := map[string]string{}, ""
	for p, err := range s.All("", behind) {
		if err != nil || p.Key <= last || len(p.Key) > api.MaxKey || len(p.Value) > api.MaxValue {
			t.Fatalf("P13: %s: behind %q comes %q, %v", what, last, p, err)
		}
		m[p.Key], last = p.Value, p.Key
	}
	return m
}

// change gives a key a value, or takes it away.
type change struct {
	key, value string
	away       bool
}

// changes are some that have to do with what a store has, and some that have not.
func changes(r *rand.Rand, m map[string]string) []change {
	var out []change
	keys := slices.Sorted(maps.Keys(m))
	for range 1 + r.Intn(8) {
		c := change{number(r.Intn(200)), longest[r.Intn(13):], r.Intn(2) == 0}
		switch n := r.Intn(8); {
		case n == 0:
			c.key = string([]byte{byte(r.Intn(256))})
		case n > 2 && len(keys) > 0:
			c.key = keys[r.Intn(len(keys))]
		}
		out = append(out, c)
	}
	return out
}

// apply changes a store, and a map beside it. There may be no room.
func (c change) apply(t *testing.T, what string, s *store.Store, m map[string]string) {
	t.Helper()
	if c.away {
		tells(t, "P5: "+what+": Delete", s.Delete(c.key), api.OK)
		delete(m, c.key)
		return
	}
	err := s.Put(c.key, c.value)
	if tells(t, "P5: "+what+": Put", err, api.OK, api.ErrSpace); err == nil {
		m[c.key] = c.value
	}
}

// keeps fails unless a store that was found on a device keeps the promises: it is changed, synced and found again, some times over, beside a map.
func keeps(t *testing.T, r *rand.Rand, what string, d *api.Disk, s *store.Store) {
	t.Helper()
	for round := range 3 {
		m := risen(t, what, s)
		holds(t, what, s, m)
		scans(t, what, s, number(5), number(50), within(m, number(5), number(50)))
		old, list := content(t, s), changes(r, m)
		// That takes long where there is much: so it is asked of some devices, of great ones seldom.
		if round == 0 && r.Intn(4*d.Blocks()) == 0 {
			fails(t, r, what, d, list)
		}
		for _, c := range list {
			c.apply(t, what, s, m)
			holds(t, what, s, m)
		}
		may(t, what+", not synced, no power", found(t, d.After(nil)), old)
		err, has := s.Sync(), content(t, s)
		if tells(t, "P8: "+what+": Sync", err, api.OK, api.ErrSpace); err != nil {
			noRoom(t, r, what, d, s, []string{old, has})
			return
		}
		if holds(t, what, s, m); d.Pending() != 0 {
			t.Errorf("P8: %s: %d writes are not sure", what, d.Pending())
		}
		may(t, what+", synced", found(t, d.After(nil)), has)
		tells(t, "P9: "+what+": Close", s.Close(), api.OK)
		tells(t, "P9: "+what+": Put, closed", s.Put("a", ""), api.ErrClosed)
		s = open(t, d)
	}
	empties(t, r, what, d)
}

// empties fails unless a store on a device can be emptied, key by key, in any order.
func empties(t *testing.T, r *rand.Rand, what string, d *api.Disk) {
	t.Helper()
	s := open(t, d)
	m := risen(t, what, s)
	keys := slices.Sorted(maps.Keys(m))
	for _, i := range r.Perm(len(keys)) {
		change{key: keys[i], away: true}.apply(t, what, s, m)
	}
	holds(t, what+", emptied", s, nil)
	tells(t, "P8: "+what+", emptied: Sync", s.Sync(), api.OK)
	holds(t, what+", emptied and synced", open(t, d.After(nil)), nil)
}

// fails lets the power fail, or an error be told, at each call of a Sync, on copies of what is sure. Where there is no room for the Sync, other tests ask.
func fails(t *testing.T, r *rand.Rand, what string, d *api.Disk, list []change) {
	t.Helper()
	all := func(s *store.Store) {
		for _, c := range list {
			c.apply(t, what, s, map[string]string{})
		}
	}
	s := open(t, d.After(nil))
	if all(s); s.Sync() != nil {
		return
	}
	c := scene{what, d.Blocks(), nothing, all}
	cut(t, r, what, d, all, func(left *api.Disk) { c.mayGoOn(t, left) })
	old := found(t, d)
	for at := 0; ; at++ {
		f := &faulty{Disk: d.After(nil), late: r.Intn(2) == 0}
		next, whole := attempt(t, what, f, all, at, 1)
		if whole {
			return
		}
		may(t, what+", another store", found(t, f), old, next)
		left(t, r, what, f.Disk, []string{old, next}, func(left *api.Disk) { c.mayGoOn(t, left) })
	}
}

// mayGoOn fails unless another store does what the scene does, on what is left of a device on which there may be no room.
func (c scene) mayGoOn(t *testing.T, d *api.Disk) {
	t.Helper()
	s := open(t, d)
	old := content(t, s)
	c.change(s)
	err := s.Sync()
	if tells(t, "P8: "+c.name+", gone on: Sync", err, api.OK, api.ErrSpace); err != nil {
		may(t, c.name+", gone on, no room", found(t, d), old, content(t, s))
		return
	}
	may(t, c.name+", gone on", found(t, d.After(nil)), content(t, s))
}

// noRoom fails unless a store whose Sync found no room can be read and closed, but not be changed, and others can be opened on the device, with power and without.
func noRoom(t *testing.T, r *rand.Rand, what string, d *api.Disk, s *store.Store, all []string) {
	t.Helper()
	what += ", no room"
	readOnly(t, what, &faulty{Disk: d}, s, all[1])
	tells(t, "P9: "+what+": Close", s.Close(), api.OK)
	closed(t, what, s)
	next := func(d *api.Disk) {
		s := open(t, d)
		may(t, what+", another store", content(t, s), all...)
		tells(t, "P8: "+what+", another store: Sync", s.Sync(), api.OK)
		empties(t, r, what+", another store", d)
	}
	left(t, r, what, d, all, next)
	next(d)
}

// twisted is a device like d, of which some bytes are others, mostly with right sums.
func twisted(r *rand.Rand, d *api.Disk) *api.Disk {
	b := []byte(d.Bytes())
	for range 1 + r.Intn(3) {
		i := r.Intn(8 + r.Intn(d.Blocks()-7))
		block := b[i*api.Block : (i+1)*api.Block]
		if i < head.Count {
			block = block[:api.Sector]
		}
		switch from := r.Intn(d.Blocks()); r.Intn(6) {
		case 0:
			copy(block, b[from*api.Block:(from+1)*api.Block])
		case 1:
			block[r.Intn(2)] = []byte("\x00\x01\x02\x0b\xffLB")[r.Intn(7)]
		case 2:
			block[r.Intn(len(block))] = byte(r.Intn(d.Blocks()))
		case 3:
			at := r.Intn(len(block))
			copy(block[at:], b[from*api.Block+r.Intn(api.Block):])
		default:
			block[r.Intn(len(block))] += byte(r.Intn(3))
		}
		if r.Intn(10) > 0 {
			pack.Seal(block)
		}
	}
	return api.Laid(d.Blocks(), string(b))
}

// Bytes that are nearly those of a store.
func TestNonsense(t *testing.T) {
	for _, c := range []struct{ blocks, keys int }{{8, 1}, {8, 6}, {30, 6}, {90, 25}, {312, 100}, {400, 129}} {
		t.Run(fmt.Sprint(c), func(t *testing.T) {
			t.Parallel()
			r := rand.New(rand.NewSource(16))
			d, _ := past(t, r, c.blocks, c.keys, 6)
			finds := 0
			for range 1000 {
				if whatever(t, r, "nonsense", twisted(r, d)) {
					finds++
				}
			}
			if finds == 0 || finds == 1000 {
				t.Errorf("%d times a store is found: the test asks too little", finds)
			}
		})
	}
}

// Two bits are turned, or more: near each other and far apart, in heads and elsewhere.
func TestMoreBitsTurned(t *testing.T) {
	for _, blocks := range []int{8, 60, 400} {
		t.Run(fmt.Sprint(blocks), func(t *testing.T) {
			t.Parallel()
			r := rand.New(rand.NewSource(22))
			d, _ := past(t, r, blocks, min(5, blocks/4)+blocks/20, 10)
			for range 500 {
				e := d
				for bit := range someBits(r, d, 2+r.Intn(2)*r.Intn(6)) {
					e = e.Turned(bit)
				}
				whatever(t, r, "bits turned", e)
			}
			for bit := range bitsOfBlock {
				next := bit + []int{1, 32, bitsOfBlock, 2 * bitsOfBlock}[bit%4]
				whatever(t, r, "two bits turned", d.Turned(bit).Turned(next))
			}
		})
	}
}

// Bytes that never were those of a store; too few of them; a store's, on a device that has fewer blocks, or more.
func TestBytes(t *testing.T) {
	r := rand.New(rand.NewSource(23))
	stores, _ := past(t, r, 60, 15, 10)
	for _, n := range []int{8, 20, 399, 400} {
		size := n * api.Block
		for name, there := range map[string]string{
			"noughts": "",
			"ones":    strings.Repeat("\xff", size),
			"marks":   strings.Repeat("store 1\n", size/8),
			"leaves":  strings.Repeat("L\x01\x01a\x00", size/5),
			"a store": stores.Bytes(),
		} {
			often(t, name, api.Laid(n, there))
		}
		for seed := range uint32(100) {
			whatever(t, r, "noise", api.Laid(n, noise(size, seed)))
		}
	}
	for cut := 0; cut < len(stores.Bytes()); cut += 1 + r.Intn(40) {
		whatever(t, r, "too few bytes", api.Laid(60, stores.Bytes()[:cut]))
		whatever(t, r, "noise behind", api.Laid(60, stores.Bytes()[:cut]+noise(60*api.Block-cut, uint32(cut))))
	}
}

// A device that gives fewer bytes than a block has, or none, or more: here and there, or everywhere.
func TestBlocksTooShort(t *testing.T) {
	r := rand.New(rand.NewSource(24))
	d, were := past(t, r, 60, 15, 10)
	for range 2000 {
		short, n := r.Intn(12), r.Intn(2*api.Block)
		s, err := store.Open(&other{Device: d.After(nil), read: func(i int) ([]byte, error) {
			b, err := d.Read(i)
			if i == short || short > 10 {
				b = append(b, noise(api.Block, 1)...)[:n]
			}
			return b, err
		}})
		if tells(t, "P13: a short block: Open", err, api.OK, api.ErrCorrupt); err == nil {
			may(t, "P13: a short block", content(t, s), were...)
		}
	}
}

// Each block is laid over each other one, or changes places with it.
func TestBlocksOverOthers(t *testing.T) {
	r := rand.New(rand.NewSource(25))
	d, _ := past(t, r, 42, 10, 10)
	block := func(i int) string { return d.Bytes()[i*api.Block : (i+1)*api.Block] }
	for i := range d.Blocks() {
		for j := range d.Blocks() {
			over, both := []byte(d.Bytes()), []byte(d.Bytes())
			copy(over[i*api.Block:], block(j))
			copy(both[i*api.Block:], block(j))
			copy(both[j*api.Block:], block(i))
			whatever(t, r, "a block over another", api.Laid(d.Blocks(), string(over)))
			whatever(t, r, "blocks that changed places", api.Laid(d.Blocks(), string(both)))
		}
	}
}

// leads is a device with these blocks, each with a right sum, and with heads that are whole, of which the newer one leads to a root.
func leads(n, root int, blocks map[int]string) *api.Disk {
	d := api.NewDisk(n)
	for at, s := range blocks {
		b := make([]byte, api.Block)
		copy(b[:api.Block-pack.SumSize], s)
		pack.Seal(b)
		d.Write(at, b)
	}
	h := head.Head{}.Next(tree.Nowhere)
	head.Lay(volume.On(d), h)
	head.Lay(volume.On(d), h.Next(root))
	return d.After(nil)
}

// leafOf is a leaf of these keys and values, each behind the length that it has, or should have.
func leafOf(texts ...string) string {
	s := "L" + string([]byte{byte(len(texts) / 2)})
	for _, x := range texts {
		s += string([]byte{byte(len(x))}) + x
	}
	return s
}

// four is a leaf of the i-th key and the three behind it.
func four(i int) string {
	var texts []string
	for k := range 4 {
		texts = append(texts, number(i+k), longest)
	}
	return leafOf(texts...)
}

type kid struct {
	from string
	at   int
}

func branchOf(kids ...kid) string {
	s := "B" + string([]byte{byte(len(kids))})
	for _, k := range kids {
		s += string([]byte{byte(len(k.from))}) + k.from + strings.Repeat("\x00", max(api.MaxKey-len(k.from), 0))
		s += string([]byte{byte(k.at), byte(k.at >> 8)})
	}
	return s
}

// chain is n branches, from block 2 on, of which each leads to the next one and to a leaf of its own, and the last one to a block.
func chain(n, last int) map[int]string {
	blocks := map[int]string{}
	for i := range n {
		next := 3 + i
		if i == n-1 {
			next = last
		}
		blocks[2+i] = branchOf(kid{"", next}, kid{number(1000 - 10*i), 2 + n + i})
		blocks[2+n+i] = four(1000 - 10*i)
	}
	return blocks
}

// Blocks that are whole by themselves, and a head that leads to them: but they lead astray.
func TestBlocksThatLeadAstray(t *testing.T) {
	m := number(10)
	for what, d := range map[string]*api.Disk{
		"a head":                        leads(20, 1, nil),
		"noughts":                       leads(20, 2, nil),
		"behind the device":             leads(20, 20, nil),
		"far behind the device":         leads(8, 0xffff, nil),
		"itself":                        leads(20, 2, map[int]string{2: branchOf(kid{"", 2}, kid{m, 3}), 3: four(10)}),
		"itself twice":                  leads(20, 2, map[int]string{2: branchOf(kid{"", 2}, kid{m, 2})}),
		"itself at last":                leads(20, 2, map[int]string{2: branchOf(kid{"", 3}, kid{m, 2}), 3: four(0)}),
		"one another":                   leads(20, 2, map[int]string{2: branchOf(kid{"", 4}, kid{m, 3}), 3: branchOf(kid{m, 2}, kid{number(20), 5}), 4: four(0), 5: four(20)}),
		"a ring":                        leads(400, 2, chain(100, 2)),
		"a ring without its beginning":  leads(400, 2, chain(100, 50)),
		"a chain, and itself":           leads(400, 2, chain(199, 200)),
		"a chain to a leaf":             leads(400, 2, chain(100, 399)),
		"one leaf twice":                leads(20, 2, map[int]string{2: branchOf(kid{"", 3}, kid{m, 3}), 3: four(0)}),
		"a head below":                  leads(20, 2, map[int]string{2: branchOf(kid{"", 3}, kid{m, 1}), 3: four(0)}),
		"nowhere below":                 leads(20, 2, map[int]string{2: branchOf(kid{"", 3}, kid{m, 0}), 3: four(0)}),
		"behind the device below":       leads(20, 2, map[int]string{2: branchOf(kid{"", 3}, kid{m, 20}), 3: four(0)}),
		"far behind the device below":   leads(20, 2, map[int]string{2: branchOf(kid{"", 3}, kid{m, 0xffff}), 3: four(0)}),
		"noughts below":                 leads(20, 2, map[int]string{2: branchOf(kid{"", 3}, kid{m, 4}), 3: four(0)}),
		"a branch where a leaf belongs": leads(20, 2, map[int]string{2: branchOf(kid{"", 3}, kid{m, 4}), 3: four(0), 4: branchOf(kid{m, 5}, kid{number(20), 6}, kid{number(30), 7}, kid{number(40), 8}), 5: four(10), 6: four(20), 7: four(30), 8: four(40)}),
		"other keys below":              leads(20, 2, map[int]string{2: branchOf(kid{"", 3}, kid{m, 4}), 3: four(0), 4: four(0)}),
		"keys in the wrong order below": leads(20, 2, map[int]string{2: branchOf(kid{"", 4}, kid{m, 3}), 3: four(0), 4: four(10)}),
		"keys that overlap":             leads(20, 2, map[int]string{2: branchOf(kid{"", 3}, kid{number(2), 4}), 3: four(0), 4: four(2)}),
	} {
		often(t, "led to "+what, d)
	}
}

// often asks whatever some times, with other changes each time. It tells whether a store was found.
func often(t *testing.T, what string, d *api.Disk) bool {
	t.Helper()
	finds := false
	for seed := range int64(20) {
		finds = whatever(t, rand.New(rand.NewSource(seed)), what, d)
	}
	return finds
}

// Blocks that no store lays down, whose sums are right: alone, and below a branch.
func TestBlocksOfNonsense(t *testing.T) {
	long := func(n int) string { return strings.Repeat("x", n) }
	pad := func(s string) string { return s + strings.Repeat("\x00", max(50-len(s), 0)) }
	for what, s := range map[string]string{
		"nothing":               "",
		"no kind":               "X" + four(0)[1:],
		"a small kind":          "l" + four(0)[1:],
		"keys that fall":        leafOf("c", longest, "b", longest, "a", longest),
		"a key twice":           leafOf("a", longest, "a", longest, "b", longest),
		"the last one falls":    leafOf("a", longest, "c", longest, "b", longest),
		"an empty key":          leafOf("", longest, "b", longest, "c", longest),
		"an empty key inside":   leafOf("a", longest, "", longest, "c", longest),
		"too long a key":        leafOf("a", longest, "b"+long(8), longest, "c", longest),
		"a far too long key":    leafOf("a", "", long(100), ""),
		"too long a value":      leafOf("a", longest, "b", longest+"x", "c", longest),
		"a far too long value":  leafOf("a", "", "b", long(100)),
		"a key over the end":    "L\x02\x01a\x00\xff" + long(200),
		"a value over the end":  "L\x02\x01a\x00\x01b\xff" + long(200),
		"a key up to the end":   "L\x0d" + strings.Repeat("\x01a\x05bbbbb", 15) + "\x08aaa",
		"no count":              "L\x00" + four(0)[2:],
		"too small a count":     "L\x03" + four(0)[2:],
		"too great a count":     "L\x05" + four(0)[2:],
		"the greatest count":    "L\xff" + four(0)[2:],
		"the greatest, full":    "L\xff" + strings.Repeat("\x01a\x00", 41),
		"something behind":      pad(four(0)+"\x00\x00\x01") + "x",
		"a branch over none":    branchOf(),
		"a branch over one":     branchOf(kid{"", 5}),
		"over a small one":      branchOf(kid{"", 9}),
		"too many kids":         "B\x0c" + strings.Repeat(branchOf(kid{"", 5})[2:], 12),
		"the most kids":         "B\xff" + strings.Repeat(branchOf(kid{"", 5})[2:], 12),
		"borders that fall":     branchOf(kid{"", 5}, kid{number(20), 7}, kid{number(10), 6}, kid{number(30), 8}),
		"a border twice":        branchOf(kid{"", 5}, kid{number(10), 6}, kid{number(10), 7}, kid{number(30), 8}),
		"an empty border twice": branchOf(kid{"", 5}, kid{"", 6}, kid{number(20), 7}, kid{number(30), 8}),
		"too long a border":     branchOf(kid{"", 5}, kid{number(10) + "x", 6}, kid{number(20), 7}, kid{number(30), 8}),
		"a border to the end":   "B\x02" + branchOf(kid{"", 5})[2:] + "\xff" + long(200),
		"a first border":        branchOf(kid{number(0), 5}, kid{number(10), 6}, kid{number(20), 7}, kid{number(30), 8}),
	} {
		leaves := map[int]string{3: s, 4: four(60), 5: four(0), 6: four(10), 7: four(20), 8: four(30), 9: leafOf("0", longest, "00", longest, "000", longest)}
		often(t, what, leads(20, 3, leaves))
		leaves[2] = branchOf(kid{"", 3}, kid{number(60), 4})
		often(t, what+", below a branch", leads(20, 2, leaves))
		leaves[2] = branchOf(kid{"", 4}, kid{"0001", 3})
		often(t, what+", last below a branch", leads(20, 2, leaves))
	}
}

// What no Sync has laid down, but is well built, is a store like any other.
func TestStoresOfUnknownOrigin(t *testing.T) {
	r := rand.New(rand.NewSource(28))
	for what, d := range map[string]*api.Disk{
		"no tree":                leads(8, 0, nil),
		"one pair":               leads(8, 7, map[int]string{7: leafOf("a", "")}),
		"the greatest pair":      leads(8, 5, map[int]string{5: leafOf(behind[:8], longest)}),
		"forty pairs in a leaf":  leads(8, 2, map[int]string{2: full40()}),
		"borders without a key":  leads(20, 9, map[int]string{9: branchOf(kid{"", 3}, kid{number(5) + "", 4}, kid{"1", 5}), 3: four(0), 4: four(10), 5: leafOf("1", longest, "11", longest, "111", longest)}),
		"the last block's":       leads(400, 399, map[int]string{399: branchOf(kid{"", 398}, kid{number(10), 397}), 398: four(0), 397: four(10)}),
		"a leaf and more":        leads(8, 2, map[int]string{2: four(0), 3: four(10), 4: branchOf(kid{"", 2}, kid{number(10), 3})}),
		"half of the blocks":     packed(t, r, 20, 9),
		"more than half":         packed(t, r, 20, 11),
		"all but one":            packed(t, r, 20, 17),
		"all":                    packed(t, r, 20, 18),
		"all of the fewest":      packed(t, r, 8, 6),
		"all of the most":        packed(t, r, 400, 398),
		"nearly all of the most": packed(t, r, 400, 390),
	} {
		t.Run(what, func(t *testing.T) {
			t.Parallel()
			if !often(t, what, d) {
				t.Fatalf("P13: %s: no store is found: the test asks nothing", what)
			}
			r := rand.New(rand.NewSource(32))
			fails(t, r, what, d, changes(r, risen(t, what, open(t, d))))
		})
	}
}

// full40 is a leaf of as many pairs as there is room for.
func full40() string {
	var texts []string
	for i := range 40 {
		texts = append(texts, string([]byte{byte(6 * i)}), "")
	}
	return leafOf(texts...)
}

// packed is a device with a tree of so many nodes, which may be more than any Put allows.
func packed(t *testing.T, r *rand.Rand, blocks, nodes int) *api.Disk {
	t.Helper()
	var grown tree.Tree
	for grown.Nodes() < nodes {
		next := grown.Put(api.Pair{Key: number(r.Intn(5000)), Value: longest})
		for next.Nodes() > nodes {
			next = grown.Put(api.Pair{Key: number(r.Intn(5000)), Value: longest})
		}
		grown = next
	}
	d := api.NewDisk(blocks)
	at := blocks
	laid := grown.Laid(func(b [api.Block]byte) int {
		at--
		d.Write(at, b[:])
		return at
	})
	h := head.Head{}.Next(tree.Nowhere)
	head.Lay(volume.On(d), h)
	head.Lay(volume.On(d), h.Next(laid.Root()))
	return d.After(nil)
}

// A store that takes all blocks has no room for a Sync, unless that takes away all that there is.
func TestNoRoomForSync(t *testing.T) {
	r := rand.New(rand.NewSource(29))
	for _, blocks := range []int{8, 20, 400} {
		d := packed(t, r, blocks, blocks-head.Count)
		s := open(t, d)
		m := risen(t, "all blocks", s)
		old, first := content(t, s), slices.Min(slices.Collect(maps.Keys(m)))
		tells(t, "P5: all blocks: Put", s.Put(first, ""), api.ErrSpace)
		tells(t, "P8: all blocks: Sync without a change", s.Sync(), api.OK)
		tells(t, "P5: all blocks: Delete", s.Delete(first), api.OK)
		has, err := content(t, s), s.Sync()
		tells(t, "P8: all blocks: Sync", err, api.ErrSpace)
		noRoom(t, r, "all blocks", d, s, []string{old, has})
	}
}

// Heads of any two turns, of which the newer one, as if their count had no end, leads to a store.
func TestHeadsOfUnknownOrigin(t *testing.T) {
	r := rand.New(rand.NewSource(30))
	turns := []uint64{0, 1, 2, 3, 1 << 32, 1<<32 + 1, math.MaxInt64 - 1, math.MaxInt64, math.MaxInt64 + 1, math.MaxUint64 - 1, math.MaxUint64}
	for _, even := range turns {
		for _, odd := range turns {
			for _, roots := range [][2]int{{2, 3}, {2, 0}, {0, 3}, {2, 2}, {2, 1}, {0xffff, 3}} {
				b := []byte(leads(8, 0, map[int]string{2: four(0), 3: four(10)}).Bytes())
				for i, turn := range []uint64{even, odd} {
					sector := b[i*api.Block : i*api.Block+api.Sector]
					pack.Put(sector[8:16], turn)
					pack.Put(sector[16:18], uint64(roots[i]))
					pack.Seal(sector)
				}
				what := fmt.Sprint("heads of the turns ", even, " and ", odd, ", roots ", roots)
				finds := whatever(t, r, what, api.Laid(8, string(b)))
				if right := even%2 == 0 && odd%2 == 1; finds && !right || !finds && right && roots == [2]int{2, 3} {
					t.Errorf("P13: %s: a store is found: %v", what, finds)
				}
			}
		}
	}
}

// A Format over whatever is cut off, or told an error, at each call: then there is what there was, or an empty store, or nothing.
func TestFormatOverNonsense(t *testing.T) {
	r := rand.New(rand.NewSource(31))
	d, _ := past(t, r, 20, 2, 10)
	empty := found(t, formatted(t, 8))
	for range 300 {
		odd := twisted(r, d)
		all := []string{empty}
		if s, err := store.Open(odd); err == nil {
			all = append(all, content(t, s))
		}
		for _, n := range []int{1, forever} {
			for at := 0; ; at++ {
				f := &faulty{Disk: odd.After(nil)}
				f.bad(at, n)
				err := store.Format(f)
				if f.told == 0 {
					tells(t, "P3: nonsense: Format", err, api.OK)
					break
				}
				tells(t, "P3: nonsense: Format, an error told", err, api.ErrIO)
				for keep := range choices(f.Pending(), r) {
					s, err := store.Open(f.After(keep))
					if tells(t, "P3: nonsense, Format", err, api.OK, api.ErrCorrupt); !errors.Is(err, api.ErrCorrupt) {
						may(t, "nonsense, Format", content(t, s), all...)
					}
				}
			}
		}
	}
}
