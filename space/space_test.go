package space

import (
	"errors"
	"testing"

	"store/api"
	"store/fault"
)

// tells fails unless the work throws this (OK: nothing).
func tells(t *testing.T, what string, work func(), want api.Errno) {
	t.Helper()
	err := fault.Catch("Work", work)
	if want == api.OK && err != nil || want != api.OK && !errors.Is(err, want) {
		t.Errorf("%s: %v, want %v", what, err, want)
	}
}

// Take gives each block that is not in use once, the first ones first.
func TestTake(t *testing.T) {
	s := Of(8, 2)
	s.Use(3)
	s.Use(7)
	for _, want := range []int{2, 4, 5, 6} {
		if at := s.Take(); at != want {
			t.Errorf("P8: block %d is taken, want %d", at, want)
		}
	}
	for range 2 {
		tells(t, "P8: no block is left", func() { s.Take() }, api.ErrSpace)
	}
}

func TestTakeAll(t *testing.T) {
	for _, size := range []int{0, 1, 8, 400} {
		s := Of(size, 0)
		for want := range size {
			if at := s.Take(); at != want {
				t.Errorf("block %d is taken, want %d", at, want)
			}
		}
		tells(t, "no block is left", func() { s.Take() }, api.ErrSpace)
	}
}

func TestUse(t *testing.T) {
	least, most := -1<<63, 1<<63-1
	s := Of(8, 2)
	for _, at := range []int{least, -1, 0, 1, 8, 9, 65535, most} {
		tells(t, "P13: a head, or no block", func() { s.Use(at) }, api.ErrCorrupt)
	}
	for _, at := range []int{2, 5, 7} {
		tells(t, "a block", func() { s.Use(at) }, api.OK)
		tells(t, "P13: a block in use", func() { s.Use(at) }, api.ErrCorrupt)
	}
	taken := s.Take()
	tells(t, "P13: a block that was taken", func() { s.Use(taken) }, api.ErrCorrupt)
}

// What is in use in one space is not in another.
func TestApart(t *testing.T) {
	a, b := Of(8, 2), Of(8, 2)
	a.Use(2)
	if at := b.Take(); at != 2 {
		t.Errorf("block %d is taken, want 2", at)
	}
}
