// Package tree: pairs in the order of their keys, in nodes of which each fits into a block.
//
// A tree is never changed. Put and Delete give another one, which has with the first one all nodes in common that are the same: those off the way from the root to the key.
package tree

import (
	"iter"

	"store/api"
)

// Tree is pairs in the order of their keys; the zero one is empty.
type Tree struct {
	root node
}

func (t Tree) top() node {
	if t.root == nil {
		return leaf(nil)
	}
	return t.root
}

// Nodes tells how many there are: so many blocks the tree takes.
func (t Tree) Nodes() int { return t.top().count() }

// Get gives a key's value, and tells whether it has one.
func (t Tree) Get(key string) (value string, has bool) {
	l := t.top().leaf(key)
	i, has := find(l, key)
	if !has {
		return "", false
	}
	return l[i].Value, true
}

// All goes through the pairs from lo on whose keys are less than hi.
func (t Tree) All(lo, hi string) iter.Seq[api.Pair] {
	return func(yield func(api.Pair) bool) {
		t.top().feed(lo, hi, yield)
	}
}

// Put is the tree with a pair, which takes the place of one that has its key.
func (t Tree) Put(p api.Pair) Tree {
	return t.changed(p.Key, func(l leaf) leaf { return l.with(pair{p}) })
}

// Delete is the tree without a key. It never has more nodes than t.
func (t Tree) Delete(key string) Tree {
	return t.changed(key, func(l leaf) leaf { return l.without(key) })
}

// changed is the tree with a change of the leaf where a key belongs. Only here it grows higher, or less high.
func (t Tree) changed(key string, change func(leaf) leaf) Tree {
	kids := fit("", t.top().changed(key, change))
	if len(kids) > 1 {
		return Tree{branch(kids)}
	}
	root := kids[0].node
	if b, ok := root.(branch); ok && len(b) == 1 {
		root = b[0].node
	}
	return Tree{root}
}
