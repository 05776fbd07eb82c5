package store_test

import (
	"fmt"
	"maps"
	"math/rand"
	"slices"
	"strings"
	"testing"

	"store/api"
	"store/head"
	"store/plain"
	"store/store"
)

func open(t *testing.T, d api.Device) *store.Store {
	t.Helper()
	s, err := store.Open(d)
	if tells(t, "P4: Open", err, api.OK); err != nil {
		t.FailNow()
	}
	return s
}

func synced(t *testing.T, s *store.Store) {
	t.Helper()
	tells(t, "P8: Sync", s.Sync(), api.OK)
}

// content is what a store has, as a text that can be held against others.
func content(t *testing.T, s *store.Store) string {
	t.Helper()
	pairs, err := plain.Scan(s, "", behind, 1000)
	tells(t, "P7: All", err, api.OK)
	return fmt.Sprintf("%q", pairs)
}

// found is what Open finds on a device.
func found(t *testing.T, d api.Device) string {
	t.Helper()
	return content(t, open(t, d))
}

// may fails unless what is found is one of these.
func may(t *testing.T, what, got string, want ...string) {
	t.Helper()
	if !slices.Contains(want, got) {
		t.Fatalf("P8, P10: %s: found %s, where one of these may be: %s", what, got, strings.Join(want, "; "))
	}
}

// choices gives each choice of the sectors of n writes, if they are not too many; else none, all, of each write one sector alone, and all but one, the writes up to one, and from one on, and some others.
func choices(n int, r *rand.Rand) func(yield func(keep []int) bool) {
	if n <= 1 {
		return survivors(n)
	}
	return func(yield func(keep []int) bool) {
		all := slices.Repeat([]int{15}, n)
		some := [][]int{nil, all}
		for j := range n {
			one, rest := make([]int, n), slices.Clone(all)
			one[j] = 1 << r.Intn(4)
			rest[j] &^= 1 << r.Intn(4)
			some = append(some, one, rest, all[:j], slices.Concat(make([]int, j), all[j:]))
		}
		for range 8 {
			keep := make([]int, n)
			for j := range keep {
				keep[j] = r.Intn(16)
			}
			some = append(some, keep)
		}
		for _, keep := range some {
			if !yield(keep) {
				return
			}
		}
	}
}

// stir makes so many changes, of a store and of a map beside it.
func stir(t *testing.T, r *rand.Rand, s *store.Store, m map[string]string, keys, changes int) {
	t.Helper()
	for range changes {
		k := number(r.Intn(keys))[r.Intn(2)*r.Intn(5):]
		if r.Intn(3) == 0 {
			delete(m, k)
			tells(t, "P5: Delete", s.Delete(k), api.OK)
		} else if _, has := m[k]; has || len(m) < keys {
			m[k] = strings.Repeat(string(rune('a'+r.Intn(26))), r.Intn(api.MaxValue+1))
			tells(t, "P5, P11: Put", s.Put(k, m[k]), api.OK)
		}
	}
}

// scene is what is sure on a device, and the changes that a Sync is to lay down.
type scene struct {
	name   string
	blocks int
	before func(s *store.Store)
	change func(s *store.Store)
}

func put(from, to int, value string) func(s *store.Store) {
	return func(s *store.Store) {
		for i := from; i < to; i++ {
			s.Put(number(i), value)
		}
	}
}

func drop(from, to int) func(s *store.Store) {
	return func(s *store.Store) {
		for i := from; i < to; i++ {
			s.Delete(number(i))
		}
	}
}

func nothing(*store.Store) {}

const longest = "twelve bytes"

func scenes() []scene {
	return []scene{
		{"the first key", 8, nothing, put(0, 1, "1")},
		{"another value", 8, put(0, 1, "1"), put(0, 1, "2")},
		{"the last key deleted", 8, put(0, 1, "1"), drop(0, 1)},
		{"a leaf halved", 20, put(0, 5, longest), put(5, 6, longest)},
		{"leaves joined", 20, put(0, 6, longest), drop(0, 2)},
		{"all at once", 42, nothing, put(0, 10, longest)},
		{"all values anew", 42, put(0, 10, longest), put(0, 10, "TWELVE BYTES")},
		{"all deleted", 42, put(0, 10, longest), drop(0, 10)},
		{"one of many", 400, put(0, 120, longest), put(60, 61, "1")},
		{"many joined", 100, put(0, 29, longest), drop(4, 25)},
		{"no change", 20, put(0, 3, "1"), nothing},
	}
}

// sure is a device on which what was before is sure, by two Syncs: so that both heads have been laid by one.
func (c scene) sure(t *testing.T) *api.Disk {
	t.Helper()
	d := formatted(t, c.blocks)
	s := open(t, d)
	tells(t, "P5: Put", s.Put("gone", ""), api.OK)
	synced(t, s)
	tells(t, "P5: Delete", s.Delete("gone"), api.OK)
	c.before(s)
	synced(t, s)
	tells(t, "P9: Close", s.Close(), api.OK)
	return d
}

// Many changes, many Syncs, Close and Open between them: what was synced last is found by another store, and on a copy of what is sure; what was not, never.
func TestSync(t *testing.T) {
	r := rand.New(rand.NewSource(7))
	for _, keys := range []int{1, 2, 5, 30, 129} {
		d := formatted(t, 3*keys+12)
		s, m, was := open(t, d), map[string]string{}, map[string]string{}
		for range 150 {
			stir(t, r, s, m, keys, r.Intn(12))
			holds(t, "P10: not synced, behind a failure of power", open(t, d.After(nil)), was)
			if r.Intn(4) > 0 {
				synced(t, s)
				was = maps.Clone(m)
				if d.Pending() != 0 {
					t.Errorf("P8: %d writes are not sure", d.Pending())
				}
			}
			holds(t, "P8: Sync leaves what the store has", s, m)
			holds(t, "P8: behind a failure of power", open(t, d.After(nil)), was)
			if r.Intn(4) == 0 {
				tells(t, "P9: Close", s.Close(), api.OK)
				closed(t, "closed", s)
				s, m = open(t, d), maps.Clone(was)
				holds(t, "P8: another store", s, m)
			}
			if t.Failed() {
				t.FailNow()
			}
		}
	}
}

// What is not synced is not even begun to be laid.
func TestNothingIsLaidAheadOfSync(t *testing.T) {
	for _, c := range scenes() {
		d := c.sure(t)
		before, s := d.Bytes(), open(t, d)
		c.change(s)
		if content(t, s); d.Pending() != 0 || d.Bytes() != before {
			t.Errorf("P10: %s: something is written ahead of Sync", c.name)
		}
	}
}

// A Sync lays down no byte over what was sure ahead of it, but for one head.
func TestNothingIsLaidOver(t *testing.T) {
	for _, c := range scenes() {
		d := c.sure(t)
		old, inUse, heads := d.After(nil), used(t, d), 0
		s := open(t, &other{Device: d, write: func(i int, b []byte) error {
			if i < head.Count {
				heads++
			} else if inUse[i] > 0 {
				t.Errorf("P8: %s: block %d is laid over, which is in use", c.name, i)
			}
			return d.Write(i, b)
		}})
		c.change(s)
		synced(t, s)
		if heads > 1 {
			t.Errorf("P8: %s: %d heads are laid", c.name, heads)
		}
		if heads == 0 && d.Bytes() != old.Bytes() {
			t.Errorf("P8: %s: nothing counts of what was laid", c.name)
		}
	}
}

// Behind a Format nothing leads back to what was there, not even a bit that is turned.
func TestFormatForgets(t *testing.T) {
	c := scene{"", 42, put(0, 10, longest), nothing}
	d := c.sure(t)
	tells(t, "P3: Format", store.Format(d), api.OK)
	empty := found(t, formatted(t, 8))
	for bit := range 8 * 42 * api.Block {
		s, err := store.Open(d.Turned(bit))
		if tells(t, "P13: a bit turned", err, api.OK, api.ErrCorrupt); err == nil {
			may(t, "formatted, a bit turned", content(t, s), empty)
		}
	}
}

func TestSyncWithoutChange(t *testing.T) {
	d := formatted(t, 20)
	for _, change := range []func(*store.Store){nothing, put(0, 3, "1"), drop(0, 3)} {
		s := open(t, d)
		for range 3 {
			writes := d.Writes()
			synced(t, s)
			if n := d.Writes() - writes; n > 2 {
				t.Errorf("P12: a Sync without a change writes %d blocks", n)
			}
			may(t, "synced without a change", found(t, d.After(nil)), content(t, s))
		}
		change(s)
		synced(t, s)
	}
}

// Changes that undo each other are changes all the same; what is there is what was there.
func TestUndone(t *testing.T) {
	for _, before := range []func(*store.Store){nothing, put(0, 1, "1"), put(0, 20, longest)} {
		d := formatted(t, 100)
		s := open(t, d)
		before(s)
		synced(t, s)
		was := content(t, s)
		for range 3 {
			tells(t, "P5: Put", s.Put("undone", "1"), api.OK)
			tells(t, "P5: Delete", s.Delete("undone"), api.OK)
			synced(t, s)
			may(t, "undone", found(t, d.After(nil)), was)
		}
	}
}

func TestLongestKeysAndValues(t *testing.T) {
	d := formatted(t, 400)
	s, m := open(t, d), map[string]string{}
	for i := range 129 {
		k, v := strings.Repeat(string(rune(1+i)), 8)[:8], strings.Repeat(string([]byte{byte(255 - i)}), 12)
		m[k] = v
		tells(t, "P5: Put", s.Put(k, v), api.OK)
	}
	for _, k := range []string{"", "\x00", "\xff"} {
		k += strings.Repeat("\x00", 8-len(k))
		m[k], m[k[:1]] = "", strings.Repeat("\x00", 12)
		tells(t, "P5: Put", s.Put(k, ""), api.OK)
		tells(t, "P5: Put", s.Put(k[:1], m[k[:1]]), api.OK)
	}
	synced(t, s)
	holds(t, "P8: the longest", open(t, d.After(nil)), m)
}

func TestAllDeleted(t *testing.T) {
	for _, n := range []int{1, 10, 129} {
		d := formatted(t, 3*n+12)
		s := open(t, d)
		for range 3 {
			put(0, n, longest)(s)
			synced(t, s)
			drop(0, n)(s)
			synced(t, s)
			holds(t, "P8: all deleted", open(t, d.After(nil)), nil)
			holds(t, "P8: all deleted", s, nil)
		}
	}
}

// With 3n + 12 blocks for n keys there is always room: whatever is changed between two Syncs, and by whichever store.
func TestRoomToSync(t *testing.T) {
	r := rand.New(rand.NewSource(12))
	for _, n := range []int{0, 1, 2, 3, 5, 10, 43, 100, 129} {
		d := formatted(t, 3*n+12)
		s, m := open(t, d), map[string]string{}
		tells(t, "P11: Delete", s.Delete("a"), api.OK)
		tells(t, "P11: Sync", s.Sync(), api.OK)
		for round := range 40 {
			value := strings.Repeat("v", []int{0, 12, r.Intn(13)}[round%3])
			for _, i := range r.Perm(2 * n)[:n] {
				if _, has := m[number(i)]; len(m) == n && !has {
					k := slices.Min(slices.Collect(maps.Keys(m)))
					delete(m, k)
					tells(t, "P11: Delete", s.Delete(k), api.OK)
				}
				m[number(i)] = value
				tells(t, "P11: Put", s.Put(number(i), value), api.OK)
				if r.Intn(n) == 0 {
					tells(t, "P11: Sync", s.Sync(), api.OK)
				}
			}
			tells(t, "P11: Sync", s.Sync(), api.OK)
			if round%5 == 0 {
				s = open(t, d)
			}
			holds(t, "room to sync", s, m)
			if t.Failed() {
				t.FailNow()
			}
		}
	}
}

// As full as it gets: what was put can be synced, changed, and synced again.
func TestFullStoreSyncs(t *testing.T) {
	for _, blocks := range []int{8, 9, 20, 42, 399, 400} {
		d := formatted(t, blocks)
		s, n := open(t, d), 0
		for ; s.Put(number(n*7919%9973), longest) == nil; n++ {
		}
		synced(t, s)
		for i := range n {
			tells(t, "P5: Put of another value", s.Put(number(i*7919%9973), "TWELVE BYTES"), api.OK)
		}
		synced(t, s)
		may(t, "full", found(t, d.After(nil)), content(t, s))
		for i := range n {
			tells(t, "P5: Delete", s.Delete(number(i*7919%9973)), api.OK)
			if i%7 == 0 {
				synced(t, s)
			}
		}
		synced(t, s)
		holds(t, "emptied", open(t, d.After(nil)), nil)
	}
}

// few fails if a Sync behind m changes writes too many blocks.
func few(t *testing.T, d *api.Disk, s *store.Store, m int) {
	t.Helper()
	before := d.Writes()
	synced(t, s)
	if n := d.Writes() - before; n > 12*m+2 {
		t.Fatalf("P12: behind %d changes a Sync writes %d blocks", m, n)
	}
}

// Whether there are few keys or as many as there is room for; the calls that are answered with an error do not count.
func TestFewBlocks(t *testing.T) {
	r := rand.New(rand.NewSource(13))
	for _, most := range []int{1, 10, 120, 1000} {
		d := formatted(t, 400)
		s, n := open(t, d), 0
		for ; n < most && s.Put(number(n), longest) == nil; n++ {
		}
		few(t, d, s, n)
		for i := range 2000 {
			m := 0
			for range i % 4 {
				k := number(r.Intn(n + n/10 + 1))
				err := s.Delete(k)
				if i%1000 < 500 || r.Intn(3) == 0 {
					err = s.Put(k, longest[:r.Intn(13)])
					m++
				}
				if err == nil {
					m++
				}
			}
			few(t, d, s, m)
			if i%100 == 0 {
				s = open(t, d)
			}
		}
	}
}

func TestOnePutOfMany(t *testing.T) {
	d := formatted(t, 400)
	s := open(t, d)
	put(0, 120, longest)(s)
	synced(t, s)
	for i := range 130 {
		for _, v := range []string{"", longest, "1"} {
			tells(t, "P5: Put", s.Put(number(i), v), api.OK)
			few(t, d, s, 1)
		}
		tells(t, "P5: Delete", s.Delete(number(i*7%130)), api.OK)
		few(t, d, s, 1)
	}
}

// The document's examples, one by one.
func TestExampleSynced(t *testing.T) {
	d := formatted(t, 20)
	s := open(t, d)
	tells(t, "P5: Put", s.Put("a", "1"), api.OK)
	synced(t, s)
	tells(t, "P5: Put", s.Put("a", "2"), api.OK)
	for keep := range survivors(1) {
		holds(t, "P10: the example", open(t, d.After(keep)), map[string]string{"a": "1"})
	}
}

func TestExampleCutOff(t *testing.T) {
	finds := map[string]int{}
	for at := range 5 {
		d := formatted(t, 20)
		s := open(t, d)
		tells(t, "P5: Put", s.Put("a", "1"), api.OK)
		synced(t, s)
		tells(t, "P5: Put", s.Put("a", "2"), api.OK)
		d.Off(at)
		s.Sync()
		for keep := range survivors(d.Pending()) {
			v, has, err := open(t, d.After(keep)).Get("a")
			if err != nil || !has || v != "1" && v != "2" {
				t.Errorf("P10: the example: %q, %v, %v", v, has, err)
			}
			finds[v]++
		}
	}
	if finds["1"] == 0 || finds["2"] == 0 {
		t.Errorf("P10: the example finds %v", finds)
	}
}

func TestExampleLastFlush(t *testing.T) {
	r := rand.New(rand.NewSource(14))
	for at := range 5 {
		d := formatted(t, 20)
		s := open(t, d)
		tells(t, "P5: Put", s.Put("a", "1"), api.OK)
		synced(t, s)
		tells(t, "P5: Put", s.Put("a", "2"), api.OK)
		d.Bad(3, 1) // a leaf, a Flush, a head, a Flush
		tells(t, "P8: the example: Sync", s.Sync(), api.ErrIO)
		tells(t, "P8: the example: Put", s.Put("b", ""), api.ErrReadOnly)
		gets(t, "the example", s, "a", "2", true)
		b := open(t, d)
		v, _, _ := b.Get("a")
		tells(t, "P5: Put", b.Put("b", ""), api.OK)
		with := content(t, b)
		d.Off(at)
		tells(t, "P8: the example: another Sync", b.Sync(), api.ErrIO, api.OK)
		for keep := range choices(d.Pending(), r) {
			may(t, "the example, found "+v, found(t, d.After(keep)), `[{"a" "1"}]`, `[{"a" "2"}]`, with)
		}
	}
}

func TestExampleRoom(t *testing.T) {
	d := formatted(t, 42)
	s := open(t, d)
	for round := range 300 {
		for i := range 10 {
			tells(t, "P11: the example: Put", s.Put(number(i), longest[round%13:]), api.OK)
			if i%(1+round%10) == 0 {
				tells(t, "P11: the example: Sync", s.Sync(), api.OK)
			}
		}
		tells(t, "P11: the example: Sync", s.Sync(), api.OK)
		tells(t, "P11: the example: Delete", s.Delete(number(round%10)), api.OK)
	}
}
