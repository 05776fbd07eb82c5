// Package store: keys and values on a device: see DOC.md.
package store

import (
	"strings"

	"store/api"
	"store/fault"
	"store/head"
	"store/space"
	"store/tree"
	"store/volume"
)

// state is what may be done with a store.
type state int

const (
	closed state = iota // nothing: so is a store that was never opened
	found               // all; what it was opened with may be what a Sync left that failed, and not sure
	sure                // all; what it has on the device is sure
	broken              // it may be read, but not be changed any more
)

// Store is open on a device. One that is closed has nothing any more.
type Store struct {
	state  state
	volume *volume.Volume
	head   head.Head
	laid   tree.Tree // what counts on the device, by the head
	tree   tree.Tree // what the store has
}

// Format lays an empty store on a device (P3).
func Format(d api.Device) error {
	return fault.Catch("Format", func() {
		v := volume.On(d)
		h, _ := head.Newest(v)
		// The elder head goes first: until the new one is sure, what counted still counts, and nothing older does. Behind the second one, nothing on the device leads to what counted any more.
		for range head.Count {
			h = h.Next(tree.Nowhere)
			head.Lay(v, h)
		}
	})
}

// Open opens the store that is on a device (P4).
func Open(d api.Device) (*Store, error) {
	var s *Store
	err := fault.Catch("Open", func() {
		v := volume.On(d)
		h, both := head.Newest(v)
		// Since a Format both heads are whole; where one is not, it may be the newer, and the other one out of date: it may even lead to blocks that a Sync has used again.
		if !both {
			fault.Throw("heads", api.ErrCorrupt)
		}
		t := read(v, h.Root())
		s = &Store{state: found, volume: v, head: h, laid: t, tree: t}
	})
	return s, err
}

// read reads a tree, of which no two nodes may lie in one block, nor one where the heads are.
func read(v *volume.Volume, root int) tree.Tree {
	blocks := space.Of(v.Size(), head.Count)
	return tree.Read(root, func(at int) [api.Block]byte {
		blocks.Use(at)
		return v.Block(at)
	})
}

// Put gives a key a value (P5).
func (s *Store) Put(key string, value string) error {
	return fault.Catch("Put", func() {
		s.needChangeable()
		needKey(key)
		needValue(value)
		next := s.tree.Put(fresh(api.Pair{Key: key, Value: value}))
		if next.Nodes() > s.room() {
			fault.Throw("room", api.ErrSpace)
		}
		s.tree = next
	})
}

// Delete takes a key away (P5).
func (s *Store) Delete(key string) error {
	return fault.Catch("Delete", func() {
		s.needChangeable()
		needKey(key)
		s.tree = s.tree.Delete(key)
	})
}

// Get tells a key's value, and whether it has one (P6).
func (s *Store) Get(key string) (string, bool, error) {
	var value string
	var has bool
	err := fault.Catch("Get", func() {
		s.needOpen()
		needKey(key)
		value, has = s.tree.Get(key)
	})
	return strings.Clone(value), has, err
}

// All goes through the pairs from one key on up to another (P7). It goes through what the store has when it sets out: since no tree is ever changed, nothing that its caller does on the way can lead it astray.
func (s *Store) All(lo string, hi string) func(yield func(p api.Pair, err error) bool) {
	return func(yield func(p api.Pair, err error) bool) {
		ended := func() bool {
			err := fault.Catch("All", s.needOpen)
			if err != nil {
				yield(api.Pair{}, err)
			}
			return err != nil
		}
		if ended() {
			return
		}
		for p := range s.tree.All(lo, hi) {
			if !yield(fresh(p), nil) || ended() {
				return
			}
		}
	}
}

// Sync makes sure of everything (P8).
func (s *Store) Sync() error {
	return fault.Catch("Sync", func() {
		s.needChangeable()
		was := s.state
		s.state = broken // and it stays so if an error breaks off the work
		// Nothing may be written over for the sake of a head that is not sure itself: behind a failure of power the one ahead of it may count again.
		if was == found {
			s.volume.Settle()
		}
		s.lay()
		s.state = sure
	})
}

// lay lays the tree down beside the one that counts, and is sure of it ahead of the head by which it counts instead.
func (s *Store) lay() {
	blocks := space.Of(s.volume.Size(), head.Count)
	s.laid.Blocks(blocks.Use)
	next := s.tree.Laid(func(b [api.Block]byte) int {
		at := blocks.Take()
		s.volume.Lay(at, b)
		return at
	})
	// A tree that was changed has a new root, in a block that was free, or none any more.
	if next.Root() != s.laid.Root() {
		s.volume.Settle()
		s.head = s.head.Next(next.Root())
		head.Lay(s.volume, s.head)
	}
	s.laid, s.tree = next, next
}

// Close ends it (P9).
func (s *Store) Close() error {
	return fault.Catch("Close", func() {
		s.needOpen()
		*s = Store{}
	})
}

// room tells how many nodes the tree may have: half of the blocks that the heads leave. So a whole new tree has room beside the old one, whatever was changed, and a Delete, which nothing may refuse, cannot take it away.
func (s *Store) room() int { return (s.volume.Size() - head.Count) / 2 }

func (s *Store) needOpen() {
	if s == nil || s.state == closed {
		fault.Throw("store", api.ErrClosed)
	}
}

func (s *Store) needChangeable() {
	s.needOpen()
	if s.state == broken {
		fault.Throw("store", api.ErrReadOnly)
	}
}

func needKey(key string) {
	if len(key) < 1 || len(key) > api.MaxKey {
		fault.Throw("key", api.ErrKey)
	}
}

func needValue(value string) {
	if len(value) > api.MaxValue {
		fault.Throw("value", api.ErrValue)
	}
}

// fresh is p in memory of its own: a key may be a piece of something great, which is not to be kept for it.
func fresh(p api.Pair) api.Pair {
	return api.Pair{Key: strings.Clone(p.Key), Value: strings.Clone(p.Value)}
}
