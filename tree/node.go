package tree

import (
	"slices"

	"store/api"
)

// node is a leaf or a branch. It is never changed: a change makes another one.
type node interface {
	size() int
	block() [api.Block]byte
	first() string
	kids() []kid
	leaf(key string) leaf
	halves() (left, right node)
	joined(right node) node // with one of its own kind
	changed(key string, change func(leaf) leaf) node
	with(change func(kid) kid) node // with each of its kids changed
	feed(lo, hi string, take func(api.Pair) bool) (more bool)
	sound(from, to string) (high int) // throws ErrCorrupt unless it and all below it are well built, for keys from and to these
}

type leaf []pair

func (l leaf) size() int { return measure(l) }

func (l leaf) block() [api.Block]byte { return block(leafKind, l) }

func (l leaf) first() string { return l[0].Key }

func (l leaf) kids() []kid { return nil }

func (l leaf) leaf(string) leaf { return l }

func (l leaf) halves() (left, right node) { return halve(l) }

func (l leaf) joined(right node) node { return slices.Concat(l, right.(leaf)) }

func (l leaf) changed(_ string, change func(leaf) leaf) node { return change(l) }

func (l leaf) with(func(kid) kid) node { return l }

// put is l with a pair, which takes the place of one that has its key.
func (l leaf) put(p pair) leaf {
	i, has := find(l, p.Key)
	to := i
	if has {
		to++
	}
	return slices.Replace(slices.Clone(l), i, to, p)
}

// without is l without a key that it has.
func (l leaf) without(key string) leaf {
	i, _ := find(l, key)
	return slices.Delete(slices.Clone(l), i, i+1)
}

func (l leaf) feed(lo, hi string, take func(api.Pair) bool) (more bool) {
	i, _ := find(l, lo)
	for _, p := range l[i:] {
		if p.Key >= hi || !take(p.Pair) {
			return false
		}
	}
	return true
}

func (l leaf) sound(from, to string) (high int) {
	need(len(l) > 0 && l.first() != "" && rise(l, from, to))
	return 1
}

type branch []kid

func (b branch) size() int { return measure(b) }

func (b branch) block() [api.Block]byte { return block(branchKind, b) }

func (b branch) first() string { return b[0].from }

func (b branch) kids() []kid { return b }

// way tells below which kid a key belongs.
func (b branch) way(key string) int {
	i, has := find(b, key)
	if !has && i > 0 {
		i--
	}
	return i
}

func (b branch) leaf(key string) leaf { return b[b.way(key)].node.leaf(key) }

func (b branch) halves() (left, right node) { return halve(b) }

func (b branch) joined(right node) node { return slices.Concat(b, right.(branch)) }

// changed leaves b's own size to the node above it, as it sees to the size of the kid that it changes.
func (b branch) changed(key string, change func(leaf) leaf) node {
	i, to := b.way(key), slices.Clone(b)
	to[i].node = b[i].node.changed(key, change)
	return to.fitted(i)
}

// fitted changes b so that its i-th kid is of a right size; b is not yet anyone else's.
func (b branch) fitted(i int) branch {
	n, to := b[i].node, i+1
	if n.size() < least {
		i = max(i-1, 0)
		to = i + 2
		n = b[i].node.joined(b[i+1].node)
	}
	return slices.Replace(b, i, to, fit(b[i].from, n)...)
}

// fit gives the kids that a node becomes: two, if it is too big for one. They lie nowhere yet.
func fit(from string, n node) []kid {
	if n.size() <= room {
		return []kid{{from: from, node: n}}
	}
	left, right := n.halves()
	return []kid{{from: from, node: left}, {from: right.first(), node: right}}
}

func (b branch) with(change func(kid) kid) node {
	to := slices.Clone(b)
	for i, k := range b {
		to[i] = change(k)
	}
	return to
}

func (b branch) feed(lo, hi string, take func(api.Pair) bool) (more bool) {
	for _, k := range b[b.way(lo):] {
		if k.from >= hi || !k.node.feed(lo, hi, take) {
			return false
		}
	}
	return true
}

func (b branch) sound(from, to string) (high int) {
	need(len(b) > 1 && b.first() == from && rise(b, from, to))
	for i, k := range b {
		end := to
		if i+1 < len(b) {
			end = b[i+1].from
		}
		below := k.node.sound(k.from, end)
		need(k.node.size() >= least && (i == 0 || below == high))
		high = below
	}
	return high + 1
}
