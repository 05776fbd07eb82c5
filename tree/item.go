package tree

import (
	"slices"
	"strings"

	"store/api"
)

// What a node may hold, and what it holds at least unless it is the root. A third is what any halving leaves on both sides: the greatest item may lie across the middle.
const (
	room  = api.Block - 6 // beside its kind, the number of its items, and its sum
	least = room / 3
)

// item is what a node is made of: a leaf of pairs, a branch of kids. The keys of a node's items rise.
type item interface {
	key() string
	size() int // in the node's block
}

// pair takes two lengths, and its bytes.
type pair struct {
	api.Pair
}

func (p pair) key() string { return p.Key }

func (p pair) size() int { return 2 + len(p.Key) + len(p.Value) }

// kid is a node below a branch, with the least key that belongs there (the empty one, where none is too small).
type kid struct {
	from string
	node node
}

func (k kid) key() string { return k.from }

// All kids have one size, that of the longest key with its length, and of a block's number: if it hung on the key, a Delete that moves the border of two nodes might make the branch above them too big, and the tree grow.
func (k kid) size() int { return 1 + api.MaxKey + 2 }

// measure tells what items take in a block.
func measure[T item](items []T) int {
	n := 0
	for _, x := range items {
		n += x.size()
	}
	return n
}

// halve cuts items in the middle of their sizes. What it gives are pieces of one list: they are as little to be changed as that.
func halve[S ~[]T, T item](items S) (left, right S) {
	whole, part, i := measure(items), 0, 0
	for ; 2*part < whole; i++ {
		part += items[i].size()
	}
	return items[:i:i], items[i:]
}

// find tells where a key is among the items, or would be.
func find[T item](items []T, key string) (i int, has bool) {
	return slices.BinarySearchFunc(items, key, func(x T, key string) int {
		return strings.Compare(x.key(), key)
	})
}
