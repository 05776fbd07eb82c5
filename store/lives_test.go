package store_test

import (
	"fmt"
	"math/rand"
	"slices"
	"strings"
	"testing"

	"store/api"
	"store/store"
)

// drive is a device whose disk can be taken for another one, also below a store that is open on it.
type drive struct{ *api.Disk }

// life is all that befalls a device, from its first Format on: one step after the other, of any kind.
type life struct {
	*testing.T
	r     *rand.Rand
	drive *drive
	store *store.Store // nil: none is open
	read  bool         // it can only be read, since its Sync failed
	may   []string     // what may be there, if no bit was turned
	none  bool         // nothing may be found, since a Format failed
	were  []string     // all that was laid down, or was to be, since the last Format
	bits  int          // that were turned since then
	log   []string
}

// tell says what befell, for the one that has to find out why a life failed.
func (l *life) tell(what string, more ...any) {
	l.log = append(l.log, strings.TrimSpace(what+" "+fmt.Sprintln(more...)))
	if l.Failed() {
		l.Fatal(strings.Join(l.log, "\n"))
	}
}

// known fails unless what is found is what may be found by now.
func (l *life) known(has string) {
	l.Helper()
	if l.bits == 0 && !slices.Contains(l.may, has) {
		l.Errorf("P10: found %s, where one of these may be: %q", has, l.may)
	}
	if l.bits == 1 && !slices.Contains(l.were, has) {
		l.Errorf("P13: a bit turned: found %s, but these were there: %q", has, l.were)
	}
}

func (l *life) open() {
	s, err := store.Open(l.drive)
	want := []api.Errno{api.OK}
	if l.none || l.bits > 0 {
		want = append(want, api.ErrCorrupt)
	}
	if tells(l.T, "P4, P13: Open", err, want...); err != nil {
		l.store = nil
		l.tell("Open", err)
		return
	}
	risen(l.T, "a life", s)
	l.known(content(l.T, s))
	l.store, l.read = s, false
	l.tell("Open", content(l.T, s))
}

// trouble lets the device tell an error at one of the next calls, or at all behind it; mostly none.
func (l *life) trouble() {
	switch at := l.r.Intn(12); l.r.Intn(6) {
	case 0:
		l.drive.Bad(at, 1)
	case 1:
		l.drive.Bad(at, forever)
	}
}

func (l *life) format() {
	l.store = nil
	told := l.drive.Told()
	l.trouble()
	err := store.Format(l.drive)
	l.drive.Bad(0, 0)
	empty := "[]"
	if l.drive.Told() == told {
		tells(l.T, "P3: Format", err, api.OK)
		l.may, l.were, l.none, l.bits = []string{empty}, []string{empty}, false, 0
	} else {
		tells(l.T, "P3: Format", err, api.ErrIO)
		l.may, l.were, l.none = append(l.may, empty), append(l.were, empty), true
	}
	l.tell("Format", err)
}

// answers gives what a change or a Sync may be answered with: these, unless the store can only be read.
func (l *life) answers(these ...api.Errno) []api.Errno {
	if l.read {
		return []api.Errno{api.ErrReadOnly}
	}
	return these
}

func (l *life) change() {
	for range 1 + l.r.Intn(4) {
		k := number(l.r.Intn(8))[l.r.Intn(2)*4:]
		if l.r.Intn(3) == 0 {
			tells(l.T, "P5: Delete", l.store.Delete(k), l.answers(api.OK)...)
		} else {
			tells(l.T, "P5: Put", l.store.Put(k, longest[l.r.Intn(13):]), l.answers(api.OK, api.ErrSpace)...)
		}
	}
	l.tell("change", content(l.T, l.store))
}

func (l *life) sync() {
	has, told := content(l.T, l.store), l.drive.Told()
	l.trouble()
	err := l.store.Sync()
	l.drive.Bad(0, 0)
	want := api.OK
	if l.drive.Told() > told {
		want = api.ErrIO
	}
	tells(l.T, "P8: Sync", err, l.answers(want)...)
	if l.may, l.were = append(l.may, has), append(l.were, has); err == nil {
		l.may, l.none = []string{has}, false
	} else {
		l.read = true
	}
	l.tell("Sync", has, err)
}

// fail lets the power fail: any choice of the sectors that are not sure survives.
func (l *life) fail() {
	keep := make([]int, l.drive.Pending())
	for i := range keep {
		keep[i] = []int{0, 15, l.r.Intn(16)}[l.r.Intn(3)]
	}
	l.store, l.drive.Disk = nil, l.drive.After(keep)
	l.tell("no power", keep)
}

// turn turns a bit of what is sure. What is not sure stays as it is, and so does a store that is open.
func (l *life) turn() {
	if l.bits > 0 && l.r.Intn(4) > 0 {
		return
	}
	l.bits++
	var bit int
	for b := range someBits(l.r, l.drive.Disk, 1+l.r.Intn(4)) {
		bit = b
	}
	was, now := l.drive.After(nil), l.drive.Turned(bit)
	for i := range was.Blocks() {
		sure, _ := was.Read(i)
		if last, _ := l.drive.Read(i); string(sure) != string(last) {
			now.Write(i, last)
		}
	}
	l.drive.Disk = now
	l.tell("a bit turned", bit)
}

func (l *life) step() {
	switch n := l.r.Intn(20); {
	case n == 0:
		l.turn()
	case n == 1:
		l.format()
	case n < 5:
		l.fail()
	case l.store == nil || n < 8:
		l.open()
	case n < 14:
		l.change()
	default:
		l.sync()
	}
}

// Whatever befalls a device, in whatever order, Open finds what it may.
func TestLives(t *testing.T) {
	for _, blocks := range []int{8, 10, 20, 40} {
		t.Run(fmt.Sprint(blocks), func(t *testing.T) {
			t.Parallel()
			for seed := range int64(2000) {
				l := &life{T: t, r: rand.New(rand.NewSource(seed)), drive: &drive{formatted(t, blocks)}, may: []string{"[]"}, were: []string{"[]"}}
				for range 80 {
					l.step()
				}
			}
		})
	}
}
