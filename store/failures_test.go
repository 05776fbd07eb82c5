package store_test

import (
	"fmt"
	"math/rand"
	"testing"

	"store/api"
	"store/store"
)

// faulty is a disk that tells errors at some calls. If it is late, it has done them all the same: so does a device that was slow, not broken.
type faulty struct {
	*api.Disk
	late     bool
	calls    int
	from, to int // the calls that tell an error
	told     int
}

// forever is as many calls as there are: behind the first of them the power is off.
const forever = 1 << 30

// bad lets the calls tell an error that come behind so many more, n of them.
func (f *faulty) bad(behind, n int) { f.from, f.to = f.calls+behind, f.calls+behind+n }

// fails counts a call, does it if it is to be done, and tells whether it is to tell an error.
func (f *faulty) fails(do func()) bool {
	bad := f.calls >= f.from && f.calls < f.to
	f.calls++
	if bad {
		f.told++
	}
	if !bad || f.late {
		do()
	}
	return bad
}

func (f *faulty) Read(i int) (b []byte, err error) {
	if f.fails(func() { b, err = f.Disk.Read(i) }) {
		return b, api.ErrKey
	}
	return b, err
}

func (f *faulty) Write(i int, b []byte) (err error) {
	if f.fails(func() { err = f.Disk.Write(i, b) }) {
		return api.ErrClosed
	}
	return err
}

func (f *faulty) Flush() (err error) {
	if f.fails(func() { err = f.Disk.Flush() }) {
		return api.ErrCorrupt
	}
	return err
}

// readOnly fails unless every change and Sync is answered with ErrReadOnly, whatever else is wrong, without asking the device, and the store can be read.
func readOnly(t *testing.T, what string, f *faulty, s *store.Store, had string) {
	t.Helper()
	before := f.calls
	for _, k := range words(0, 1, 8, 9) {
		for _, v := range words(0, 12, 13) {
			tells(t, "P8: "+what+": Put", s.Put(k, v), api.ErrReadOnly)
		}
		tells(t, "P8: "+what+": Delete", s.Delete(k), api.ErrReadOnly)
	}
	tells(t, "P8: "+what+": Sync", s.Sync(), api.ErrReadOnly)
	may(t, what+": the store", content(t, s), had)
	for p := range s.All("", behind) {
		gets(t, what, s, p.Key, p.Value, true)
	}
	gets(t, what, s, "none", "", false)
	_, _, err := s.Get("")
	if tells(t, "P6: "+what+": Get", err, api.ErrKey); f.calls != before {
		t.Errorf("P8: %s: a store that can only be read asks the device", what)
	}
}

// attempt lets a store change and sync, and the device tell errors at a call of that Sync and behind it, n of them; then it tells none any more. It gives what the store had, and tells whether there was no such call.
func attempt(t *testing.T, what string, f *faulty, change func(s *store.Store), at, n int) (has string, whole bool) {
	t.Helper()
	s, told := open(t, f), f.told
	change(s)
	has = content(t, s)
	f.bad(at, n)
	err := s.Sync()
	f.bad(0, 0)
	if whole = f.told == told; whole {
		tells(t, "P8: "+what+": Sync", err, api.OK)
		may(t, what+", synced", found(t, f.After(nil)), has)
		return has, whole
	}
	tells(t, "P8: "+what+": Sync, an error told", err, api.ErrIO)
	readOnly(t, what+", an error told", f, s, has)
	tells(t, "P9: "+what+": Close", s.Close(), api.OK)
	closed(t, what+", closed behind an error", s)
	return has, whole
}

// goesOn fails unless a store on this device changes, syncs, and is found again.
func goesOn(t *testing.T, what string, d *api.Disk) {
	t.Helper()
	s := open(t, d)
	tells(t, "P8: "+what+", gone on: Put", s.Put("on", "2"), api.OK)
	tells(t, "P8: "+what+", gone on: Sync", s.Sync(), api.OK)
	may(t, what+", gone on", found(t, d.After(nil)), content(t, s))
}

// left lets the power fail: whatever survives, one of these is found. Then it goes on with what is left.
func left(t *testing.T, r *rand.Rand, what string, d *api.Disk, all []string, then func(left *api.Disk)) {
	t.Helper()
	for keep := range choices(d.Pending(), r) {
		left := d.After(keep)
		may(t, what+", no power", found(t, left), all...)
		then(left)
	}
}

// cut lets the power fail at each call of a Sync. What is on the device is sure.
func cut(t *testing.T, r *rand.Rand, what string, d *api.Disk, change func(s *store.Store), then func(left *api.Disk)) {
	t.Helper()
	old := found(t, d)
	for at := 0; ; at++ {
		f := &faulty{Disk: d.After(nil)}
		next, whole := attempt(t, what, f, change, at, forever)
		if whole {
			return
		}
		left(t, r, what, f.Disk, []string{old, next}, then)
	}
}

// The power fails at each call of a Sync, whatever survives; then again in the next one, with another choice.
func TestPowerFailsInSync(t *testing.T) {
	r := rand.New(rand.NewSource(8))
	for _, c := range scenes() {
		cut(t, r, c.name, c.sure(t), c.change, func(left *api.Disk) {
			if r.Intn(10) == 0 {
				cut(t, r, c.name+", again", left, put(3, 6, "again"), func(left *api.Disk) {
					if r.Intn(10) == 0 {
						goesOn(t, c.name+", again", left)
					}
				})
			}
			goesOn(t, c.name, left)
		})
	}
}

// errors hands each device to a function on which a Sync of the scene was told an error, each at another call, with what may be there.
func (c scene) errors(t *testing.T, then func(f *faulty, all []string)) {
	t.Helper()
	d := c.sure(t)
	old := found(t, d)
	for _, late := range []bool{false, true} {
		for at := 0; ; at++ {
			f := &faulty{Disk: d.After(nil), late: late}
			next, whole := attempt(t, c.name, f, c.change, at, 1)
			if whole {
				break
			}
			then(f, []string{old, next})
		}
	}
}

// same is a device like f, with the same writes not sure: one that is laid on what is sure of f, and written to as f was since.
func (f *faulty) same() *faulty {
	d := f.After(nil)
	for i := range f.Blocks() {
		now, _ := f.Disk.Read(i)
		if was, _ := d.Read(i); string(was) != string(now) {
			d.Write(i, now)
		}
	}
	return &faulty{Disk: d, late: f.late}
}

// The device tells an error at each call of a Sync; then the power fails, or another store goes on.
func TestErrorInSync(t *testing.T) {
	r := rand.New(rand.NewSource(9))
	for _, c := range scenes() {
		c.errors(t, func(f *faulty, all []string) {
			may(t, c.name+", another store", found(t, f), all...)
			left(t, r, c.name, f.Disk, all, func(left *api.Disk) { goesOn(t, c.name, left) })
			goesOn(t, c.name, f.Disk)
		})
	}
}

// The device tells an error at each call of a Sync; another store goes on, with power, and in its Sync an error is told again, at each call, or the power fails.
func TestAnotherStore(t *testing.T) {
	r := rand.New(rand.NewSource(10))
	for _, c := range scenes() {
		c.errors(t, func(f *faulty, all []string) {
			c.goneOn(t, r, f, all, put(2, 5, "other"), 1)
			c.goneOn(t, r, f, all, drop(0, 2), forever)
		})
	}
}

// goneOn lets another store sync, on a device on which all these may be: that is told an error at each call in turn, n times.
func (c scene) goneOn(t *testing.T, r *rand.Rand, f *faulty, all []string, change func(s *store.Store), n int) {
	t.Helper()
	what := c.name + ", another store"
	for at := 0; ; at++ {
		g := f.same()
		next, whole := attempt(t, what, g, change, at, n)
		if whole {
			return
		}
		may(t, what+", a third", found(t, g), append(all, next)...)
		left(t, r, what, g.Disk, append(all, next), func(left *api.Disk) {
			if r.Intn(10) == 0 {
				goesOn(t, what, left)
			}
		})
		goesOn(t, what, g.Disk)
	}
}

// One store after the other is told an error in its Sync, each at a later call, without a failure of power: what may be there becomes more, until one is told none.
func (c scene) row(t *testing.T, r *rand.Rand, f *faulty, all []string) {
	t.Helper()
	for at := 0; ; at++ {
		may(t, c.name+", in a row", found(t, f), all...)
		next, whole := attempt(t, c.name+", in a row", f, put(1, 4, fmt.Sprint(at)), at, 1)
		if whole {
			return
		}
		all = append(all, next)
		left(t, r, c.name+", in a row", f.Disk, all, func(*api.Disk) {})
	}
}

func TestErrorsInARow(t *testing.T) {
	r := rand.New(rand.NewSource(17))
	for _, c := range scenes() {
		c.errors(t, func(f *faulty, all []string) { c.row(t, r, f, all) })
	}
}

// A store that found what was not sure makes sure of it, though it changes nothing.
func TestSyncOfWhatWasFound(t *testing.T) {
	for _, c := range scenes() {
		c.errors(t, func(f *faulty, all []string) {
			writes := f.Writes()
			attempt(t, c.name+", no change", f, nothing, 0, 0)
			if f.Pending() != 0 || f.Writes() > writes+2 {
				t.Errorf("P8, P12: %s: %d writes are not sure, %d are new", c.name, f.Pending(), f.Writes()-writes)
			}
		})
	}
}

// The power fails, or an error is told, at each call of a Format over a store; then others go on.
func TestFormatOverStore(t *testing.T) {
	r := rand.New(rand.NewSource(11))
	empty := found(t, formatted(t, 8))
	for _, c := range scenes() {
		d := c.sure(t)
		all := []string{found(t, d), empty}
		for _, n := range []int{1, forever} {
			for at := 0; ; at++ {
				f := &faulty{Disk: d.After(nil)}
				f.bad(at, n)
				err := store.Format(f)
				f.bad(0, 0)
				if f.told == 0 {
					tells(t, "P3: "+c.name+": Format", err, api.OK)
					may(t, c.name+", formatted", found(t, f.After(nil)), empty)
					goesOn(t, c.name+", formatted", f.Disk)
					break
				}
				tells(t, "P3: "+c.name+": Format, an error told", err, api.ErrIO)
				left(t, r, c.name+", Format", f.Disk, all, func(left *api.Disk) { goesOn(t, c.name+", Format", left) })
				c.row(t, r, f, all)
			}
		}
	}
}

// Behind a Sync that failed a Format is told errors, too, at each call; or none, and nothing else is there any more.
func TestFormatBehindSync(t *testing.T) {
	r := rand.New(rand.NewSource(18))
	empty := found(t, formatted(t, 8))
	for _, c := range scenes() {
		c.errors(t, func(f *faulty, all []string) {
			for at := 0; ; at++ {
				g := f.same()
				g.bad(at, 1)
				err := store.Format(g)
				if g.told == 0 {
					tells(t, "P3: "+c.name+": Format", err, api.OK)
					may(t, c.name+", formatted", found(t, g.After(nil)), empty)
					return
				}
				tells(t, "P3: "+c.name+": Format, an error told", err, api.ErrIO)
				left(t, r, c.name+", Format", g.Disk, append(all, empty), func(*api.Disk) {})
			}
		})
	}
}

// The device tells an error at each call of an Open, of which there are as many as there are nodes.
func TestErrorInOpenOfMany(t *testing.T) {
	d := scene{"", 100, put(0, 20, longest), nothing}.sure(t)
	was := found(t, d)
	for _, late := range []bool{false, true} {
		f := &faulty{Disk: d, late: late}
		for at := 0; ; at++ {
			told := f.told
			f.bad(at, 1)
			s, err := store.Open(f)
			if f.told == told {
				may(t, "no error told", content(t, s), was)
				break
			}
			if tells(t, "P4: Open, an error told", err, api.ErrIO); s != nil {
				t.Error("P1: a store beside an error")
			}
		}
	}
	if d.Pending() != 0 || d.Told() != 0 {
		t.Error("P4: Open writes")
	}
}
