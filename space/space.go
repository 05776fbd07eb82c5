// Package space: which blocks of a device are in use.
package space

import (
	"strconv"

	"store/api"
	"store/fault"
)

// Space is blocks, numbered from 0, of which some are in use.
type Space struct {
	size int
	used map[int]struct{}
}

// Of is so many blocks, of which the first ones are in use.
func Of(size, first int) Space {
	s := Space{size: size, used: map[int]struct{}{}}
	for at := range first {
		s.Use(at)
	}
	return s
}

// Use says that a block is in use. It throws ErrCorrupt where there is no such block, or it is in use already: whoever says so read it from a device that tells nonsense.
func (s Space) Use(at int) {
	if at < 0 || at >= s.size || s.inUse(at) {
		fault.Throw("use of block "+strconv.Itoa(at), api.ErrCorrupt)
	}
	s.used[at] = struct{}{}
}

// Take gives the first block that is not in use, and says that it is; it throws ErrSpace where there is none.
func (s Space) Take() int {
	at := 0
	for s.inUse(at) {
		at++
	}
	if at >= s.size {
		fault.Throw("space", api.ErrSpace)
	}
	s.Use(at)
	return at
}

func (s Space) inUse(at int) bool {
	_, used := s.used[at]
	return used
}
