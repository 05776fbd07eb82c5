package store_test

import (
	"errors"
	"fmt"
	"maps"
	"math/rand"
	"slices"
	"strings"
	"testing"
	"unsafe"

	"store/api"
	"store/plain"
	"store/store"
)

// behind is greater than all keys.
var behind = strings.Repeat("\xff", api.MaxKey+1)

func opened(t *testing.T, n int) *store.Store {
	t.Helper()
	s, err := store.Open(formatted(t, n))
	if tells(t, "P4: Open", err, api.OK); err != nil {
		t.FailNow()
	}
	return s
}

// within gives the pairs of a map from lo on that are less than hi.
func within(m map[string]string, lo, hi string) []api.Pair {
	var out []api.Pair
	for _, k := range slices.Sorted(maps.Keys(m)) {
		if k >= lo && k < hi {
			out = append(out, api.Pair{Key: k, Value: m[k]})
		}
	}
	return out
}

// scans fails unless All goes through these pairs, without an error.
func scans(t *testing.T, what string, s *store.Store, lo, hi string, want []api.Pair) {
	t.Helper()
	var got []api.Pair
	for p, err := range s.All(lo, hi) {
		if err != nil {
			t.Errorf("P7: %s: All(%q, %q): %v", what, lo, hi, err)
		}
		got = append(got, p)
	}
	if !slices.Equal(got, want) {
		t.Errorf("P7: %s: All(%q, %q) goes through %q, want %q", what, lo, hi, got, want)
	}
}

// gets fails unless a key has this value, or none.
func gets(t *testing.T, what string, s *store.Store, key, want string, there bool) {
	t.Helper()
	if v, has, err := s.Get(key); v != want || has != there || err != nil {
		t.Errorf("P6: %s: Get(%q) = %q, %v, %v; want %q, %v", what, key, v, has, err, want, there)
	}
}

// holds fails unless the store has what the map has, and nothing else.
func holds(t *testing.T, what string, s *store.Store, want map[string]string) {
	t.Helper()
	scans(t, what, s, "", behind, within(want, "", behind))
	for k, v := range want {
		gets(t, what, s, k, v, true)
	}
}

// words gives texts of all these lengths, of which some are alike.
func words(lengths ...int) []string {
	var out []string
	for _, n := range lengths {
		for _, x := range []string{"\x00", "a", "\xff"} {
			out = append(out, strings.Repeat(x, n))
		}
	}
	return out
}

// Keys and values of all lengths, about the bounds and far off: of several errors the first one named is answered, and nothing is changed by any.
func TestLengths(t *testing.T) {
	long := strings.Repeat("x", 1<<16)
	for _, k := range append(words(0, 1, 2, 7, 8, 9, 10, 255, 256, 257), long) {
		s := opened(t, 40)
		m := map[string]string{"b": "1"}
		tells(t, "P5: Put", s.Put("b", "1"), api.OK)
		isKey := len(k) >= 1 && len(k) <= 8
		keyed := api.ErrKey
		if isKey {
			keyed = api.OK
		}
		for _, v := range append(words(0, 1, 11, 12, 13, 255, 256, 257, 268), long) {
			want := keyed
			if isKey && len(v) > 12 {
				want = api.ErrValue
			}
			tells(t, fmt.Sprintf("P5: Put of %d and %d bytes", len(k), len(v)), s.Put(k, v), want)
			if want == api.OK {
				m[k] = v
			}
			holds(t, "P5: Put", s, m)
		}
		v, has, err := s.Get(k)
		tells(t, "P6: Get", err, keyed)
		if has != isKey || v != m[k] {
			t.Errorf("P6: Get of %d bytes: %q, %v", len(k), v, has)
		}
		for range 2 {
			tells(t, "P5: Delete", s.Delete(k), keyed)
			delete(m, k)
			holds(t, "P5: Delete", s, m)
		}
		if isKey {
			gets(t, "deleted", s, k, "", false)
		}
	}
}

// A key is its bytes: one that is the beginning of another, or looks like it, is another key.
func TestKeysAreBytes(t *testing.T) {
	s := opened(t, 100)
	m := map[string]string{}
	for i, k := range []string{"a", "a\x00", "a\x00\x00", "A", "ä", "a\xcc\x88", "\xe4", "\xff", "\xff\xff", "\x00", "\x00\x00", "\x7f", "\x80", "aa", "ab", "b", "00000000", "0000000"} {
		gets(t, "ahead of Put", s, k, "", false)
		m[k] = strings.Repeat("v", i%13)
		tells(t, "P5: Put", s.Put(k, m[k]), api.OK)
		holds(t, "keys alike", s, m)
	}
	for k := range m {
		tells(t, "P5: Delete", s.Delete(k), api.OK)
		delete(m, k)
		holds(t, "keys alike", s, m)
	}
}

// An empty value is a value: a key that has it is there.
func TestEmptyValue(t *testing.T) {
	s := opened(t, 40)
	for _, v := range []string{"", "1", "", "\x00", ""} {
		tells(t, "P5: Put", s.Put("a", v), api.OK)
		gets(t, "put again", s, "a", v, true)
		holds(t, "put again", s, map[string]string{"a": v})
	}
	tells(t, "P5: Delete", s.Delete("a"), api.OK)
	gets(t, "deleted", s, "a", "", false)
	holds(t, "deleted", s, nil)
}

func number(i int) string { return fmt.Sprintf("%08d", i) }

// Many keys, put and deleted in any order, put again with other values, deleted and put again.
func TestOrders(t *testing.T) {
	const n = 129
	rise, fall := make([]int, n), make([]int, n)
	for i := range n {
		rise[i], fall[n-1-i] = i, i
	}
	mixed := rand.New(rand.NewSource(4)).Perm(n)
	orders := [][]int{rise, fall, mixed}
	for a, puts := range orders {
		for b, deletes := range orders {
			s := opened(t, 3*n+12)
			m := map[string]string{}
			for round, v := range []string{"", "twelve bytes", "v"} {
				what := fmt.Sprintf("orders %d and %d, round %d", a, b, round)
				for _, k := range puts {
					m[number(k)] = v
					tells(t, "P5: "+what+": Put", s.Put(number(k), v), api.OK)
				}
				holds(t, what, s, m)
				for i, k := range deletes {
					if i%3 == round {
						delete(m, number(k))
						tells(t, "P5: "+what+": Delete", s.Delete(number(k)), api.OK)
						gets(t, what, s, number(k), "", false)
					}
				}
				holds(t, what, s, m)
			}
			for _, k := range deletes {
				tells(t, "P5: Delete", s.Delete(number(k)), api.OK)
			}
			holds(t, "all deleted", s, nil)
		}
	}
}

// Fewer keys are tried than the room is promised for.
func TestBesideMap(t *testing.T) {
	r := rand.New(rand.NewSource(5))
	s := opened(t, 400)
	m := map[string]string{}
	tried := words(1, 2, 3, 4, 5, 6, 7, 8)
	for i := range 100 {
		tried = append(tried, "\x00a\xff"[i%3:i%3+1]+number(i)[8-i%8:])
	}
	for i := range 4000 {
		k := tried[r.Intn(len(tried))]
		if v := strings.Repeat("v", r.Intn(13)); r.Intn(2) > 0 {
			m[k] = v
			tells(t, "P5: Put", s.Put(k, v), api.OK)
		} else {
			delete(m, k)
			tells(t, "P5: Delete", s.Delete(k), api.OK)
		}
		if i%40 == 0 {
			holds(t, "beside a map", s, m)
		}
		if t.Failed() {
			t.FailNow()
		}
	}
}

func TestBoundsOfAll(t *testing.T) {
	s := opened(t, 400)
	m := map[string]string{}
	bounds := append(words(0, 1, 2, 7, 8, 9, 300), "b", "c\x00", "e", number(10), number(11)+"\x00", number(10)[:7], "0", "1")
	for _, k := range bounds {
		if len(k) >= 1 && len(k) <= 8 {
			m[k] = k[:min(len(k), 3)]
		}
	}
	for i := range 60 {
		m[number(i)] = ""
	}
	for k, v := range m {
		tells(t, "P5: Put", s.Put(k, v), api.OK)
	}
	for _, lo := range bounds {
		for _, hi := range bounds {
			scans(t, "bounds", s, lo, hi, within(m, lo, hi))
		}
	}
	empty := opened(t, 8)
	for _, lo := range bounds {
		scans(t, "an empty store", empty, lo, behind, nil)
	}
}

// stock gives a store with so many numbers as keys.
func stock(t *testing.T, n int) (*store.Store, map[string]string) {
	t.Helper()
	s, m := opened(t, 3*n+12), map[string]string{}
	for i := range n {
		m[number(i)] = number(i)[4:]
		tells(t, "P5: Put", s.Put(number(i), m[number(i)]), api.OK)
	}
	return s, m
}

func TestAllIsToldToStop(t *testing.T) {
	s, m := stock(t, 50)
	all := within(m, "", behind)
	for stop := range len(all) + 1 {
		var got []api.Pair
		s.All("", behind)(func(p api.Pair, err error) bool {
			if tells(t, "P7: All", err, api.OK); len(got) > stop {
				t.Fatal("P7: All goes on when it is told to stop")
			}
			got = append(got, p)
			return len(got) <= stop
		})
		if !slices.Equal(got, all[:min(stop+1, len(all))]) {
			t.Errorf("P7: told to stop at %d: %q", stop, got)
		}
	}
	got, err := plain.Scan(s, number(7), behind, 3)
	if tells(t, "P7: Scan", err, api.OK); !slices.Equal(got, all[7:10]) {
		t.Errorf("P7: Scan: %q", got)
	}
	holds(t, "told to stop", s, m)
}

// What All gives can be gone through again, and while it is gone through; it tells what the store has then.
func TestAllAgain(t *testing.T) {
	s, m := stock(t, 30)
	all := s.All(number(5), number(25))
	through := func() []api.Pair {
		var got []api.Pair
		for p, err := range all {
			tells(t, "P7: All", err, api.OK)
			got = append(got, p)
		}
		return got
	}
	for range 2 {
		if got := through(); !slices.Equal(got, within(m, number(5), number(25))) {
			t.Errorf("P7: %q", got)
		}
	}
	m[number(10)] = "new"
	delete(m, number(11))
	tells(t, "P5: Put", s.Put(number(10), "new"), api.OK)
	tells(t, "P5: Delete", s.Delete(number(11)), api.OK)
	for range all {
		if got := through(); !slices.Equal(got, within(m, number(5), number(25))) {
			t.Errorf("P7: within another: %q", got)
		}
	}
}

// A caller that changes the store on the way is not led astray, and the changes are there behind it.
func TestChangesOnTheWay(t *testing.T) {
	s, m := stock(t, 60)
	want := within(m, "", behind)
	var got []api.Pair
	for p, err := range s.All("", behind) {
		tells(t, "P7: All", err, api.OK)
		got = append(got, p)
		tells(t, "P5: Delete", s.Delete(p.Key), api.OK)
		tells(t, "P5: Put", s.Put("x"+p.Key[4:], "y"), api.OK)
		delete(m, p.Key)
		m["x"+p.Key[4:]] = "y"
		gets(t, "on the way", s, p.Key, "", false)
	}
	if !slices.Equal(got, want) {
		t.Errorf("P7: changed on the way: %q", got)
	}
	holds(t, "changed on the way", s, m)
}

// A store that is closed on the way tells so, once, whether there would have been more or not.
func TestClosedOnTheWay(t *testing.T) {
	for at := range 20 {
		s, _ := stock(t, 20)
		n := 0
		for p, err := range s.All("", behind) {
			if n > at {
				tells(t, "P7: closed on the way", err, api.ErrClosed)
				if p != (api.Pair{}) {
					t.Errorf("P7: a pair beside an error: %q", p)
				}
			} else if err != nil || p.Key != number(n) {
				t.Errorf("P7: pair %d: %q, %v", n, p, err)
			}
			if n == at {
				tells(t, "P9: Close", s.Close(), api.OK)
			}
			n++
		}
		if n != at+2 {
			t.Errorf("P7: closed at %d: told %d times", at, n)
		}
	}
}

// What the caller's own code panics with is the caller's.
func TestCallersPanic(t *testing.T) {
	s, m := stock(t, 20)
	func() {
		defer func() {
			if r := recover(); r != "the caller's" {
				t.Errorf("P7: the caller's panic becomes %v", r)
			}
		}()
		for range s.All("", behind) {
			panic("the caller's")
		}
	}()
	holds(t, "behind the caller's panic", s, m)
}

// closed fails unless every call is answered with ErrClosed, whatever else is wrong.
func closed(t *testing.T, what string, s *store.Store) {
	t.Helper()
	for _, k := range words(0, 1, 8, 9) {
		for _, v := range words(0, 12, 13) {
			tells(t, "P9: "+what+": Put", s.Put(k, v), api.ErrClosed)
		}
		tells(t, "P9: "+what+": Delete", s.Delete(k), api.ErrClosed)
		v, has, err := s.Get(k)
		if tells(t, "P9: "+what+": Get", err, api.ErrClosed); v != "" || has {
			t.Errorf("P1: %s: Get: %q, %v beside an error", what, v, has)
		}
		for _, hi := range append(words(0, 1), behind) {
			n := 0
			for p, err := range s.All(k, hi) {
				n++
				if tells(t, "P9: "+what+": All", err, api.ErrClosed); p != (api.Pair{}) {
					t.Errorf("P7: %s: a pair beside an error: %q", what, p)
				}
			}
			s.All(k, hi)(func(api.Pair, error) bool { n++; return false })
			if n != 2 {
				t.Errorf("P7: %s: All tells %d times, want once each time", what, n)
			}
		}
	}
	tells(t, "P9: "+what+": Sync", s.Sync(), api.ErrClosed)
	tells(t, "P9: "+what+": Close", s.Close(), api.ErrClosed)
}

func TestClose(t *testing.T) {
	for _, n := range []int{0, 1, 100} {
		s, _ := stock(t, n)
		all := s.All("", behind)
		tells(t, "P9: Close", s.Close(), api.OK)
		for range 2 {
			closed(t, "closed", s)
		}
		told := 0
		for p, err := range all {
			told++
			if tells(t, "P7: closed ahead of the way", err, api.ErrClosed); p != (api.Pair{}) {
				t.Errorf("P7: a pair beside an error: %q", p)
			}
		}
		if told != 1 {
			t.Errorf("P7: closed ahead of the way: told %d times", told)
		}
	}
}

// Close asks nothing of the device, and leaves the device and other stores alone.
func TestCloseLeavesTheRest(t *testing.T) {
	d := formatted(t, 40)
	before, writes := d.Bytes(), d.Writes()
	s, _ := store.Open(d)
	tells(t, "P5: Put", s.Put("a", "1"), api.OK)
	far := opened(t, 40)
	tells(t, "P5: Put", far.Put("b", "2"), api.OK)
	d.Off(0)
	tells(t, "P9: Close, the power is off", s.Close(), api.OK)
	if d.Told() != 0 || d.Writes() != writes || d.Bytes() != before {
		t.Error("P9: Close asks the device")
	}
	holds(t, "another is closed", far, map[string]string{"b": "2"})
	d = d.After(nil)
	again, err := store.Open(d)
	tells(t, "P4: Open behind Close", err, api.OK)
	holds(t, "P10: nothing was synced", again, nil)
	tells(t, "P5: Put", again.Put("c", "3"), api.OK)
	holds(t, "opened again", again, map[string]string{"c": "3"})
	closed(t, "opened again elsewhere", s)
}

func TestNoStore(t *testing.T) {
	closed(t, "no store", nil)
	closed(t, "never opened", &store.Store{})
}

// ErrIO is answered only in a call in which the device told an error; else the call does as it should.
func TestDeviceOff(t *testing.T) {
	d := formatted(t, 100)
	s, _ := store.Open(d)
	m := map[string]string{}
	d.Off(0)
	for i := range 25 {
		told := d.Told()
		if err := s.Put(number(i), "v"); d.Told() == told {
			tells(t, "P5: Put", err, api.OK)
			m[number(i)] = "v"
		} else if err != nil {
			tells(t, "P1: Put", err, api.ErrIO)
		}
		told = d.Told()
		for p, err := range s.All("", behind) {
			if want := (api.Pair{}); err != nil && (d.Told() == told || p != want) {
				t.Errorf("P7: %q, %v", p, err)
			}
		}
		if d.Told() == 0 {
			holds(t, "the power is off", s, m)
		}
	}
	tells(t, "P1: wrong key, the power is off", s.Put("", "v"), api.ErrKey)
	tells(t, "P9: Close, the power is off", s.Close(), api.OK)
}

// As long as there is room for three blocks a key and twelve, no call answers ErrSpace; whatever is put and deleted.
func TestRoom(t *testing.T) {
	r := rand.New(rand.NewSource(6))
	for _, blocks := range []int{15, 16, 18, 21, 27, 42, 60, 100, 200, 399, 400} {
		n := (blocks - 12) / 3
		s, m := opened(t, blocks), map[string]string{}
		for i := range 20 * n {
			k := number(r.Intn(3 * n))
			if _, has := m[k]; has && r.Intn(3) > 0 || len(m) == n && !has {
				k = slices.Sorted(maps.Keys(m))[i%len(m)]
				delete(m, k)
				tells(t, "P11: Delete", s.Delete(k), api.OK)
			} else {
				m[k] = strings.Repeat("v", max(r.Intn(24)-11, 0))
				tells(t, "P11: Put", s.Put(k, m[k]), api.OK)
			}
		}
		holds(t, "room", s, m)
	}
}

// A Put for which there is no room changes nothing; a Delete makes room again.
func TestNoRoom(t *testing.T) {
	for _, blocks := range []int{8, 9, 12, 42, 400} {
		s, m := opened(t, blocks), map[string]string{}
		for i := 0; ; i++ {
			k := number(i * 7919 % 9973)
			err := s.Put(k, "twelve bytes")
			if err != nil {
				tells(t, "P5: Put without room", err, api.ErrSpace)
				break
			}
			m[k] = "twelve bytes"
			if len(m)*22 > blocks*api.Block {
				t.Fatalf("P5: %d keys are put on %d blocks", len(m), blocks)
			}
		}
		if 3*(len(m)+1)+12 <= blocks {
			t.Errorf("P11: no room for %d keys on %d blocks", len(m)+1, blocks)
		}
		holds(t, "no room", s, m)
		tells(t, "P5: wrong key without room", s.Put("", "v"), api.ErrKey)
		tells(t, "P5: wrong value without room", s.Put("x", "thirteen byte"), api.ErrValue)
		for _, k := range slices.Sorted(maps.Keys(m))[:len(m)/2] {
			delete(m, k)
			tells(t, "P5: Delete without room", s.Delete(k), api.OK)
		}
		m["a"] = "1"
		tells(t, "P5: Put with room again", s.Put("a", "1"), api.OK)
		holds(t, "room again", s, m)
	}
}

// Half of the blocks behind the heads are the tree's: of 8 blocks three, for a branch and two leaves, of which rising keys leave the first one with three, and fill the second with five.
func TestHalfOfTheBlocks(t *testing.T) {
	s := opened(t, 8)
	for i := range 8 {
		tells(t, "P5: Put", s.Put(number(i), "twelve bytes"), api.OK)
	}
	tells(t, "P5: Put without room", s.Put(number(8), "twelve bytes"), api.ErrSpace)
}

// shared: do two texts lie in the same memory?
func shared(a, b string) bool {
	return len(a) > 0 && len(b) > 0 && unsafe.StringData(a) == unsafe.StringData(b)
}

func TestFreshTexts(t *testing.T) {
	s := opened(t, 40)
	key, value := strings.Clone("key"), strings.Clone("value")
	tells(t, "P5: Put", s.Put(key, value), api.OK)
	a, _, _ := s.Get(key)
	b, _, _ := s.Get(key)
	texts := []string{key, value, a, b}
	for range 2 {
		for p := range s.All("", behind) {
			texts = append(texts, p.Key, p.Value)
		}
	}
	for i, x := range texts {
		for _, y := range texts[:i] {
			if shared(x, y) {
				t.Errorf("P2: text %d, %q, is not fresh", i, x)
			}
		}
	}
}

// What comes in is the caller's: what it does with its memory has no bearing on the store.
func TestCallersMemory(t *testing.T) {
	s := opened(t, 40)
	bytes := []byte("keyvalue")
	text := unsafe.String(&bytes[0], len(bytes))
	tells(t, "P5: Put", s.Put(text[:3], text[3:]), api.OK)
	copy(bytes, "xxxxxxxx")
	holds(t, "the caller's memory", s, map[string]string{"key": "value"})
}

// An error is the caller's, too.
func TestFreshErrors(t *testing.T) {
	s := opened(t, 40)
	wrong := func() []error {
		_, _, get := s.Get("")
		return []error{s.Put("", ""), s.Put("a", behind+behind), s.Delete(""), get}
	}
	told := fmt.Sprint(wrong())
	for _, err := range wrong() {
		for f := new(api.Fault); errors.As(err, &f); err = f.E {
			f.Op = "changed"
			if _, more := f.E.(*api.Fault); !more {
				f.E = api.OK
				break
			}
		}
	}
	if again := fmt.Sprint(wrong()); again != told {
		t.Errorf("P2: %s becomes %s", told, again)
	}
}

// What one store has, another does not have; what is told, is told again.
func TestStoresApart(t *testing.T) {
	a, b := opened(t, 40), opened(t, 40)
	tells(t, "P5: Put", a.Put("a", "1"), api.OK)
	tells(t, "P5: Put", b.Put("a", "2"), api.OK)
	tells(t, "P5: Put", b.Put("b", "3"), api.OK)
	tells(t, "P5: Delete", a.Delete("b"), api.OK)
	for range 2 {
		holds(t, "apart", a, map[string]string{"a": "1"})
		holds(t, "apart", b, map[string]string{"a": "2", "b": "3"})
	}
	tells(t, "P9: Close", a.Close(), api.OK)
	holds(t, "apart", b, map[string]string{"a": "2", "b": "3"})
}
