// Package store: keys and values on a device: see DOC.md.
package store

import (
	"store/api"
	"store/fault"
	"store/head"
	"store/volume"
)

// Store is open on a device.
type Store struct {
	volume *volume.Volume
}

// Format lays an empty store on a device (P3).
func Format(d api.Device) error {
	return fault.Catch("Format", func() {
		v := volume.On(d)
		h, _ := head.Newest(v)
		// The elder head goes first: until the new one is sure, what counted still counts, and nothing older does.
		for range 2 {
			h = h.Next()
			head.Lay(v, h)
		}
	})
}

// Open opens the store that is on a device (P4).
func Open(d api.Device) (*Store, error) {
	var s *Store
	err := fault.Catch("Open", func() {
		v := volume.On(d)
		// Since a Format both heads are whole; where one is not, it may be the newer, and the other one out of date.
		if _, both := head.Newest(v); !both {
			fault.Throw("heads", api.ErrCorrupt)
		}
		s = &Store{volume: v}
	})
	return s, err
}

// Put gives a key a value (P5).
func (s *Store) Put(key string, value string) error { return nil }

// Delete takes a key away (P5).
func (s *Store) Delete(key string) error { return nil }

// Get tells a key's value, and whether it has one (P6).
func (s *Store) Get(key string) (string, bool, error) { return "", false, nil }

// All goes through the pairs from one key on up to another (P7).
func (s *Store) All(lo string, hi string) func(yield func(p api.Pair, err error) bool) {
	return func(yield func(p api.Pair, err error) bool) {}
}

// Sync makes sure of everything (P8).
func (s *Store) Sync() error { return nil }

// Close ends it (P9).
func (s *Store) Close() error { return nil }
