// Package tree: pairs in the order of their keys, in nodes of which each fits into a block.
//
// A tree is never changed. Put and Delete give another one, which has with the first one all nodes in common that are the same: those off the way from the root to the key. So what was laid on a device stays there untouched, and only the others have to be laid beside it.
package tree

import (
	"iter"

	"store/api"
)

// Nowhere is the number of the block in which a node lies that was not laid yet, or the root of an empty tree, which has no nodes.
const Nowhere = 0

// Tree is pairs in the order of their keys; the zero one is empty.
type Tree struct {
	root kid // without a node, if the tree is empty
}

func (t Tree) top() node {
	if t.root.node == nil {
		return leaf(nil)
	}
	return t.root.node
}

// Get gives a key's value, and tells whether it has one.
func (t Tree) Get(key string) (value string, has bool) {
	l := t.top().leaf(key)
	i, has := find(l, key)
	if !has {
		return "", false
	}
	return l[i].Value, true
}

// All goes through the pairs from lo on whose keys are less than hi.
func (t Tree) All(lo, hi string) iter.Seq[api.Pair] {
	return func(yield func(api.Pair) bool) {
		t.top().feed(lo, hi, yield)
	}
}

// Put is the tree with a pair, which takes the place of one that has its key.
func (t Tree) Put(p api.Pair) Tree {
	return t.changed(p.Key, func(l leaf) leaf { return l.put(pair{p}) })
}

// Delete is the tree without a key. It never has more nodes than t.
func (t Tree) Delete(key string) Tree {
	if _, has := t.Get(key); !has {
		return t
	}
	return t.changed(key, func(l leaf) leaf { return l.without(key) })
}

// changed is the tree with a change of the leaf where a key belongs. Only here it grows higher, or less high.
func (t Tree) changed(key string, change func(leaf) leaf) Tree {
	kids := fit("", t.top().changed(key, change))
	if len(kids) > 1 {
		return Tree{kid{node: branch(kids)}}
	}
	root := kids[0]
	if below := root.node.kids(); len(below) == 1 {
		root = below[0]
	}
	if root.node.size() == 0 {
		return Tree{}
	}
	return Tree{root}
}

// walk hands the root and all below it to a function.
func (t Tree) walk(visit func(kid)) {
	if t.root.node != nil {
		t.root.walk(visit)
	}
}

// Nodes tells how many there are: so many blocks the tree takes.
func (t Tree) Nodes() int {
	n := 0
	t.walk(func(kid) { n++ })
	return n
}

// Blocks hands the block of each node to a function. The tree is one that was laid, or read.
func (t Tree) Blocks(visit func(at int)) {
	t.walk(func(k kid) { visit(k.at) })
}

// Root tells in which block the root lies.
func (t Tree) Root() int { return t.root.at }

// Laid is the tree when each node has a block. Those that have none yet are handed to a function, which lays them down and tells where; what is below a node goes first.
func (t Tree) Laid(lay func(b [api.Block]byte) (at int)) Tree {
	if t.root.node == nil {
		return t
	}
	return Tree{t.root.laid(lay)}
}

// Read is the tree that was laid with its root in this block; it throws ErrCorrupt unless all that it reads is as Laid lays it. The function that gives the blocks has to see to it that none is asked for twice: else a block that leads back to itself would be read for ever.
func Read(root int, block func(at int) [api.Block]byte) Tree {
	if root == Nowhere {
		return Tree{}
	}
	k := kid{at: root}.read(block)
	k.node.sound("", "")
	return Tree{k}
}
