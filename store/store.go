// Package store: keys and values on a device: see DOC.md.
package store

import (
	"strings"

	"store/api"
	"store/fault"
	"store/head"
	"store/tree"
	"store/volume"
)

// Store is open on a device. One that is closed has nothing any more: it is as if it had never been opened.
type Store struct {
	volume *volume.Volume
	tree   tree.Tree
}

// Format lays an empty store on a device (P3).
func Format(d api.Device) error {
	return fault.Catch("Format", func() {
		v := volume.On(d)
		h, _ := head.Newest(v)
		// The elder head goes first: until the new one is sure, what counted still counts, and nothing older does.
		for range head.Count {
			h = h.Next()
			head.Lay(v, h)
		}
	})
}

// Open opens the store that is on a device (P4).
func Open(d api.Device) (*Store, error) {
	var s *Store
	err := fault.Catch("Open", func() {
		v := volume.On(d)
		// Since a Format both heads are whole; where one is not, it may be the newer, and the other one out of date.
		if _, both := head.Newest(v); !both {
			fault.Throw("heads", api.ErrCorrupt)
		}
		s = &Store{volume: v}
	})
	return s, err
}

// Put gives a key a value (P5).
func (s *Store) Put(key string, value string) error {
	return fault.Catch("Put", func() {
		s.needOpen()
		needKey(key)
		needValue(value)
		next := s.tree.Put(fresh(api.Pair{Key: key, Value: value}))
		if next.Nodes() > s.room() {
			fault.Throw("room", api.ErrSpace)
		}
		s.tree = next
	})
}

// Delete takes a key away (P5).
func (s *Store) Delete(key string) error {
	return fault.Catch("Delete", func() {
		s.needOpen()
		needKey(key)
		s.tree = s.tree.Delete(key)
	})
}

// Get tells a key's value, and whether it has one (P6).
func (s *Store) Get(key string) (string, bool, error) {
	var value string
	var has bool
	err := fault.Catch("Get", func() {
		s.needOpen()
		needKey(key)
		value, has = s.tree.Get(key)
	})
	return strings.Clone(value), has, err
}

// All goes through the pairs from one key on up to another (P7). It goes through what the store has when it sets out: since no tree is ever changed, nothing that its caller does on the way can lead it astray.
func (s *Store) All(lo string, hi string) func(yield func(p api.Pair, err error) bool) {
	return func(yield func(p api.Pair, err error) bool) {
		ended := func() bool {
			err := fault.Catch("All", s.needOpen)
			if err != nil {
				yield(api.Pair{}, err)
			}
			return err != nil
		}
		if ended() {
			return
		}
		for p := range s.tree.All(lo, hi) {
			if !yield(fresh(p), nil) || ended() {
				return
			}
		}
	}
}

// Sync makes sure of everything (P8).
func (s *Store) Sync() error { return fault.Catch("Sync", s.needOpen) }

// Close ends it (P9).
func (s *Store) Close() error {
	return fault.Catch("Close", func() {
		s.needOpen()
		*s = Store{}
	})
}

// room tells how many nodes the tree may have: half of the blocks that the heads leave. So a whole new tree has room beside the old one, whatever was changed, and a Delete, which nothing may refuse, cannot take it away.
func (s *Store) room() int { return (s.volume.Size() - head.Count) / 2 }

func (s *Store) needOpen() {
	if s == nil || s.volume == nil {
		fault.Throw("store", api.ErrClosed)
	}
}

func needKey(key string) {
	if len(key) < 1 || len(key) > api.MaxKey {
		fault.Throw("key", api.ErrKey)
	}
}

func needValue(value string) {
	if len(value) > api.MaxValue {
		fault.Throw("value", api.ErrValue)
	}
}

// fresh is p in memory of its own: a key may be a piece of something great, which is not to be kept for it.
func fresh(p api.Pair) api.Pair {
	return api.Pair{Key: strings.Clone(p.Key), Value: strings.Clone(p.Value)}
}
