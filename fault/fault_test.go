package fault

import (
	"errors"
	"testing"

	"store/api"
)

func TestNothingThrown(t *testing.T) {
	done := false
	if err := Catch("Work", func() { done = true }); err != nil || !done {
		t.Errorf("P1: %v, done: %v", err, done)
	}
}

func TestThrown(t *testing.T) {
	for e := api.ErrKey; e <= api.ErrSize; e++ {
		err := Catch("Work", func() {
			Throw("step", e)
			t.Error("the work goes on behind a Throw")
		})
		var told api.Errno
		if !errors.Is(err, e) || !errors.As(err, &told) || told != e {
			t.Errorf("P1: %v was thrown, caught is %v", e, err)
		}
		var f *api.Fault
		if !errors.As(err, &f) || f.Op != "Work" {
			t.Errorf("P1: %v does not tell the call", err)
		}
	}
}

// What a device panics with is not an answer, even if it looks like one.
func TestForeignPanic(t *testing.T) {
	for _, what := range []any{"text", 7, nil, errors.New("its own"), api.OK, api.ErrCorrupt, &api.Fault{Op: "x", E: api.OK}} {
		err := Catch("Work", func() { panic(what) })
		if !errors.Is(err, api.ErrIO) || errors.Is(err, api.OK) || errors.Is(err, api.ErrCorrupt) {
			t.Errorf("P1: panic with %v: %v", what, err)
		}
	}
}

func TestFreshErrors(t *testing.T) {
	wrong := func() error { return Catch("Work", func() { Throw("step", api.ErrIO) }) }
	a := wrong()
	a.(*api.Fault).E.(*api.Fault).E = api.OK
	a.(*api.Fault).Op = ""
	if b := wrong(); b.Error() != "Work: step: ErrIO" {
		t.Errorf("P2: an error that was changed by its owner comes out again: %v", b)
	}
}
