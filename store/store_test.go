package store_test

import (
	"errors"
	"slices"
	"strings"
	"testing"

	"store/api"
	"store/head"
	"store/plain"
	"store/store"
	"store/volume"
)

// other is a device like the one that it embeds, but for the calls that are set.
type other struct {
	api.Device
	blocks func() int
	read   func(i int) ([]byte, error)
	write  func(i int, b []byte) error
	flush  func() error
}

func (o *other) Blocks() int {
	if o.blocks != nil {
		return o.blocks()
	}
	return o.Device.Blocks()
}

func (o *other) Read(i int) ([]byte, error) {
	if o.read != nil {
		return o.read(i)
	}
	return o.Device.Read(i)
}

func (o *other) Write(i int, b []byte) error {
	if o.write != nil {
		return o.write(i, b)
	}
	return o.Device.Write(i, b)
}

func (o *other) Flush() error {
	if o.flush != nil {
		return o.flush()
	}
	return o.Device.Flush()
}

func formatted(t *testing.T, n int) *api.Disk {
	t.Helper()
	d := api.NewDisk(n)
	tells(t, "P3: Format", store.Format(d), api.OK)
	return d
}

// tells fails unless the error is one of these (OK: nil), asked by errors.Is and by errors.As.
func tells(t *testing.T, what string, err error, want ...api.Errno) {
	t.Helper()
	e := plain.Told(err)
	if !slices.Contains(want, e) || err != nil && (!errors.Is(err, e) || errors.Is(err, api.OK)) {
		t.Errorf("%s: %v, want %v", what, err, want)
	}
}

// opens fails unless Open answers with one of these, and with a store if and only if that is OK.
func opens(t *testing.T, what string, d api.Device, want ...api.Errno) {
	t.Helper()
	s, err := store.Open(d)
	tells(t, what+": Open", err, want...)
	if (s == nil) != (err != nil) {
		t.Errorf("P1: %s: Open: a store: %v, beside %v", what, s != nil, err)
	}
}

// survivors gives each choice of the sectors of n writes.
func survivors(n int) func(yield func(keep []int) bool) {
	return func(yield func(keep []int) bool) {
		for choice := range 1 << (4 * n) {
			keep := make([]int, n)
			for j := range keep {
				keep[j] = choice >> (4 * j) & 15
			}
			if !yield(keep) {
				return
			}
		}
	}
}

// noise is bytes that look like nothing.
func noise(n int, seed uint32) string {
	b := make([]byte, n)
	for i := range b {
		seed = seed*1664525 + 1013904223
		b[i] = byte(seed >> 24)
	}
	return string(b)
}

func newest(d *api.Disk) head.Head {
	h, _ := head.Newest(volume.On(d))
	return h
}

func TestNoDevice(t *testing.T) {
	for _, d := range []api.Device{nil, (*api.Disk)(nil), &other{}} {
		tells(t, "P1: no device: Format", store.Format(d), api.ErrSize)
		opens(t, "P1: no device", d, api.ErrSize)
	}
}

// Whatever a device tells as its error, the answer is ErrIO, and no other.
func TestErrorsOfDevices(t *testing.T) {
	for _, told := range []error{errors.New("its own"), api.OK, api.ErrCorrupt, api.ErrSize, api.Errno(-1), &api.Fault{Op: "x", E: api.ErrClosed}, (*api.Fault)(nil)} {
		for name, d := range map[string]*other{
			"Read":  {read: func(int) ([]byte, error) { return make([]byte, api.Block), told }},
			"Write": {write: func(int, []byte) error { return told }},
			"Flush": {flush: func() error { return told }},
		} {
			d.Device = api.NewDisk(20)
			tells(t, "P1: "+name+" tells an error: Format", store.Format(d), api.ErrIO)
			d.Device = formatted(t, 20)
			want := api.OK
			if name == "Read" {
				want = api.ErrIO
			}
			opens(t, "P1: "+name+" tells an error", d, want)
		}
	}
}

func TestDevicesThatPanic(t *testing.T) {
	for name, d := range map[string]*other{
		"Read":  {read: func(int) ([]byte, error) { panic("read") }},
		"Write": {write: func(int, []byte) error { panic(api.OK) }},
		"Flush": {flush: func() error { panic(nil) }},
	} {
		d.Device = api.NewDisk(20)
		tells(t, "P1: "+name+" panics: Format", store.Format(d), api.ErrIO)
	}
	opens(t, "P1: Read panics", &other{Device: formatted(t, 20), read: func(int) ([]byte, error) { panic("read") }}, api.ErrIO)
	opens(t, "P1: Blocks panics", &other{blocks: func() int { panic("blocks") }}, api.ErrSize)
}

func TestBlocksOfOtherLengths(t *testing.T) {
	for _, n := range []int{0, 1, api.Sector - 1, api.Sector, api.Block - 1, api.Block + 1, 1000} {
		from := formatted(t, 20)
		d := &other{Device: from, read: func(i int) ([]byte, error) {
			b, err := from.Read(i)
			return append(b, make([]byte, 1000)...)[:n], err
		}}
		want := api.OK
		if n < api.Sector {
			want = api.ErrCorrupt
		}
		opens(t, "P1: blocks of another length", d, want)
		tells(t, "P1: blocks of another length: Format", store.Format(d), api.OK)
		opens(t, "P3: formatted anew", from, api.OK)
	}
}

// The size is asked ahead of all else: a device of the wrong size is not touched, even if it would tell errors.
func TestSizeComesFirst(t *testing.T) {
	least, most := -1<<63, 1<<63-1
	for _, n := range []int{least, -8, -1, 0, 7, 401, 500, most} {
		d := api.NewDisk(20)
		d.Off(0)
		sized := &other{Device: d, blocks: func() int { return n }}
		tells(t, "P3: Format", store.Format(sized), api.ErrSize)
		opens(t, "P4", sized, api.ErrSize)
		if d.Told() != 0 {
			t.Errorf("P3, P4: %d blocks: the device was asked for more than its size", n)
		}
	}
}

func TestSizes(t *testing.T) {
	for _, n := range []int{0, 1, 7, 8, 9, 42, 399, 400, 401, 999} {
		want, then := api.OK, api.OK
		if n < 8 || n > 400 {
			want, then = api.ErrSize, api.ErrSize
		}
		d := api.NewDisk(n)
		tells(t, "P3: Format", store.Format(d), want)
		opens(t, "P4", d, then)
		if want != api.OK && d.Writes() != 0 {
			t.Errorf("P3: %d blocks: something was written", n)
		}
	}
}

// What is on one device has no bearing on another; asked again, the same is told.
func TestHangsOnTheDevice(t *testing.T) {
	a, b := formatted(t, 20), api.NewDisk(20)
	for range 3 {
		opens(t, "P2: formatted", a, api.OK)
		opens(t, "P2: noughts", b, api.ErrCorrupt)
	}
	if b.Bytes() != api.NewDisk(20).Bytes() {
		t.Error("P2: the other device was changed")
	}
	if a.Bytes() != formatted(t, 20).Bytes() {
		t.Error("P2: the same calls on the same device lay down something else")
	}
}

func TestFreshStores(t *testing.T) {
	d := formatted(t, 20)
	a, _ := store.Open(d)
	b, _ := store.Open(d)
	if a == b {
		t.Error("P2: two stores are one")
	}
	bad := api.NewDisk(20)
	_, err := store.Open(bad)
	var f *api.Fault
	if errors.As(err, &f) {
		f.Op, f.E = "changed", api.OK
	}
	_, err = store.Open(bad)
	if tells(t, "P2: Open", err, api.ErrCorrupt); err != nil && strings.Contains(err.Error(), "changed") {
		t.Errorf("P2: an error that was changed by its owner comes out again: %v", err)
	}
}

// A device that lives in the very bytes that go to and fro: none of them is changed behind its back.
func TestMemoryOfDevices(t *testing.T) {
	var mem, copies [20][]byte
	d := &other{
		blocks: func() int { return len(mem) },
		read:   func(i int) ([]byte, error) { return mem[i], nil },
		write: func(i int, b []byte) error {
			mem[i], copies[i] = b, slices.Clone(b)
			return nil
		},
		flush: func() error { return nil },
	}
	for range 3 {
		tells(t, "P3: Format", store.Format(d), api.OK)
		opens(t, "P4", d, api.OK)
		for i := range mem {
			if !slices.Equal(mem[i], copies[i]) {
				t.Fatalf("P2: block %d was changed, but not by a Write", i)
			}
		}
	}
}

func TestFormatIsSure(t *testing.T) {
	for _, n := range []int{8, 20, 400} {
		size := n * api.Block
		for _, there := range []string{"", noise(size, 1), strings.Repeat("\xff", size), formatted(t, n).Bytes()} {
			d := api.Laid(n, there)
			for range 3 {
				tells(t, "P3: Format", store.Format(d), api.OK)
				if d.Pending() != 0 {
					t.Errorf("P3: %d writes are not sure", d.Pending())
				}
				opens(t, "P3: formatted", d, api.OK)
				opens(t, "P3: formatted, then the power fails", d.After(nil), api.OK)
			}
		}
	}
}

// starts are the devices over which a Format is broken off; stays: a store is there, and has to be there still.
func starts(t *testing.T) map[string]struct {
	d     *api.Disk
	stays bool
} {
	twice := formatted(t, 8)
	tells(t, "P3: Format", store.Format(twice), api.OK)
	half := api.NewDisk(8)
	half.Off(4)
	tells(t, "P3: Format", store.Format(half), api.ErrIO)
	return map[string]struct {
		d     *api.Disk
		stays bool
	}{
		"noughts":   {api.NewDisk(8), false},
		"noise":     {api.Laid(8, noise(8*api.Block, 2)), false},
		"half":      {half.After(nil), false},
		"formatted": {formatted(t, 8), true},
		"twice":     {twice, true},
	}
}

// broken holds what is left of a Format that was broken off against P3: nothing older than what counted may count.
func broken(t *testing.T, what string, left *api.Disk, was head.Head, stays bool) {
	t.Helper()
	if !stays {
		opens(t, what, left, api.OK, api.ErrCorrupt)
	} else {
		opens(t, what, left, api.OK)
		if now := newest(left); now != was && now != was.Next(0) && now != was.Next(0).Next(0) {
			t.Errorf("P3: %s: something older counts", what)
		}
	}
	tells(t, what+": Format anew", store.Format(left), api.OK)
	opens(t, what+": formatted anew", left.After(nil), api.OK)
}

func TestPowerFailsInFormat(t *testing.T) {
	for name, from := range starts(t) {
		was := newest(from.d)
		for at := 0; ; at++ {
			d := from.d.After(nil)
			d.Off(at)
			err := store.Format(d)
			if d.Told() == 0 {
				tells(t, "P3: "+name+": Format", err, api.OK)
				break
			}
			tells(t, "P3: "+name+": Format, cut off", err, api.ErrIO)
			for keep := range survivors(d.Pending()) {
				broken(t, "P3: "+name+", Format cut off", d.After(keep), was, from.stays)
			}
		}
	}
}

// The device tells an error in a Format, once; another Format follows, and in that the power fails.
func TestErrorInFormat(t *testing.T) {
	for name, from := range starts(t) {
		was := newest(from.d)
		for at := 0; ; at++ {
			d := from.d.After(nil)
			d.Bad(at, 1)
			err := store.Format(d)
			if d.Told() == 0 {
				tells(t, "P3: "+name+": Format", err, api.OK)
				break
			}
			tells(t, "P3: "+name+": Format, an error told", err, api.ErrIO)
			for then := range 8 {
				again := from.d.After(nil)
				again.Bad(at, 1)
				store.Format(again)
				opens(t, "P3: "+name+", an error told", again, api.OK, api.ErrCorrupt)
				again.Off(then)
				store.Format(again)
				for keep := range survivors(again.Pending()) {
					left := again.After(keep)
					if from.stays {
						opens(t, "P3: "+name+", an error told, then cut off", left, api.OK)
					}
				}
			}
			for keep := range survivors(d.Pending()) {
				broken(t, "P3: "+name+", an error told", d.After(keep), was, from.stays)
			}
			tells(t, "P3: "+name+": Format behind an error", store.Format(d), api.OK)
			opens(t, "P3: "+name+", formatted behind an error", d.After(nil), api.OK)
		}
	}
}

func TestOpenChangesNothing(t *testing.T) {
	for name, from := range starts(t) {
		before := from.d.Bytes()
		d := &other{
			Device: from.d,
			write:  func(int, []byte) error { t.Errorf("P4: %s: Open writes", name); return nil },
			flush:  func() error { t.Errorf("P4: %s: Open flushes", name); return nil },
		}
		opens(t, "P4: "+name, d, api.OK, api.ErrCorrupt)
		if from.d.Bytes() != before {
			t.Errorf("P4: %s: Open changes the device", name)
		}
	}
}

func TestNothingThere(t *testing.T) {
	for _, n := range []int{8, 20, 400} {
		size := n * api.Block
		for name, there := range map[string]string{
			"noughts":    "",
			"ones":       strings.Repeat("\xff", size),
			"words":      strings.Repeat("store", size/5),
			"the mark":   strings.Repeat("store 1\n", size/8),
			"head begun": formatted(t, n).Bytes()[:api.Block+api.Sector-1],
		} {
			opens(t, "P4: "+name, api.Laid(n, there), api.ErrCorrupt)
		}
		for seed := range uint32(50) {
			opens(t, "P4: noise", api.Laid(n, noise(size, seed)), api.ErrCorrupt)
		}
	}
}

// Open reads what was written last, whether it is sure or not.
func TestOpenBehindWritesNotSure(t *testing.T) {
	sure := formatted(t, 8)
	d := api.NewDisk(8)
	for i := range 8 {
		b, _ := sure.Read(i)
		d.Write(i, b)
	}
	opens(t, "P4: all written, none sure", d, api.OK)
	opens(t, "P4: none survived", d.After(nil), api.ErrCorrupt)
}

func TestErrorInOpen(t *testing.T) {
	d := formatted(t, 20)
	for at := 0; ; at++ {
		d.Bad(at, 1)
		told := d.Told()
		s, err := store.Open(d)
		if d.Told() == told {
			break
		}
		tells(t, "P4: Open, an error told", err, api.ErrIO)
		if s != nil {
			t.Error("P1: a store beside an error")
		}
		opens(t, "P4: the error is gone", d, api.OK)
	}
	d.Off(0)
	opens(t, "P4: the power is off", d, api.ErrIO)
}

func TestTurnedBits(t *testing.T) {
	d := formatted(t, 8)
	for bit := range 8 * 8 * api.Block {
		opens(t, "P4: a bit turned", d.Turned(bit), api.OK, api.ErrCorrupt)
	}
}

// The first of the document's examples, as far as Format and Open go.
func TestExample(t *testing.T) {
	d := api.NewDisk(20)
	opens(t, "P4: noughts", d, api.ErrCorrupt)
	tells(t, "P3: Format", plain.Format(d), api.OK)
	s, err := plain.Open(d)
	tells(t, "P4: Open", err, api.OK)
	pairs, err := plain.Scan(s, "", "\xff", 10)
	if tells(t, "P3: Scan", err, api.OK); len(pairs) != 0 {
		t.Errorf("P3: an empty store has %v", pairs)
	}
	if v, has, err := s.Get("a"); v != "" || has || err != nil {
		t.Errorf("P3: an empty store has a: %q, %v, %v", v, has, err)
	}
}
