package tree

import (
	"slices"
	"strings"

	"store/api"
)

// item is what a node is made of: a leaf of pairs, a branch of kids. The keys of a node's items rise.
type item interface {
	key() string
	size() int               // in the node's block
	packed(to []byte) []byte // with its own bytes behind these
}

// pair takes two lengths, and its bytes.
type pair struct {
	api.Pair
}

func (p pair) key() string { return p.Key }

func (p pair) size() int { return 2 + len(p.Key) + len(p.Value) }

// kid is a node below a branch, with the least key that belongs there (the empty one, where none is too small), and the block in which it lies.
type kid struct {
	from string
	at   int
	node node
}

func (k kid) key() string { return k.from }

// All kids have one size, that of the longest key with its length, and of a block's number: if it hung on the key, a Delete that moves the border of two nodes might make the branch above them too big, and the tree grow.
func (k kid) size() int { return 1 + api.MaxKey + atSize }

// walk hands k and all kids below it to a function.
func (k kid) walk(visit func(kid)) {
	visit(k)
	for _, below := range k.node.kids() {
		below.walk(visit)
	}
}

// laid is k with a block. Where it has one already, so have all below it, since a change makes new kids on the whole way up.
func (k kid) laid(lay func(b [api.Block]byte) (at int)) kid {
	if k.at == Nowhere {
		k.node = k.node.with(func(below kid) kid { return below.laid(lay) })
		k.at = lay(k.node.block())
	}
	return k
}

// read is k with the node that lies in its block, and with all below it.
func (k kid) read(block func(at int) [api.Block]byte) kid {
	k.node = taken(block(k.at)).with(func(below kid) kid { return below.read(block) })
	return k
}

// measure tells what items take in a block.
func measure[T item](items []T) int {
	n := 0
	for _, x := range items {
		n += x.size()
	}
	return n
}

// halve cuts items in the middle of their sizes. What it gives are pieces of one list: they are as little to be changed as that.
func halve[S ~[]T, T item](items S) (left, right S) {
	whole, part, i := measure(items), 0, 0
	for ; 2*part < whole; i++ {
		part += items[i].size()
	}
	return items[:i:i], items[i:]
}

// find tells where a key is among the items, or would be.
func find[T item](items []T, key string) (i int, has bool) {
	return slices.BinarySearchFunc(items, key, func(x T, key string) int {
		return strings.Compare(x.key(), key)
	})
}

// rise tells whether the keys of items rise, the first not less than from, the last less than to (if that is empty, there is no end).
func rise[T item](items []T, from, to string) bool {
	for i, x := range items {
		if x.key() < from || i > 0 && x.key() == from {
			return false
		}
		from = x.key()
	}
	return to == "" || from < to
}
