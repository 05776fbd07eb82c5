package tree

import (
	"store/api"
	"store/fault"
	"store/pack"
)

// A node's block: its kind, the number of its items, the items, noughts, the sum.
const (
	leafKind   = 'L'
	branchKind = 'B'
	itemsAt    = 2
	itemsTo    = api.Block - pack.SumSize
	atSize     = 2 // of a block's number
)

// What a node may hold, and what it holds at least unless it is the root. A third is what any halving leaves on both sides: the greatest item may lie across the middle.
const (
	room  = itemsTo - itemsAt
	least = room / 3
)

// block is a node of this kind as it lies on the device.
func block[T item](kind byte, items []T) [api.Block]byte {
	out := []byte{kind, byte(len(items))}
	for _, x := range items {
		out = x.packed(out)
	}
	var b [api.Block]byte
	copy(b[:itemsTo], out)
	pack.Seal(b[:])
	return b
}

func (p pair) packed(to []byte) []byte { return putText(putText(to, p.Key), p.Value) }

func (k kid) packed(to []byte) []byte {
	var rest [api.MaxKey + atSize]byte
	pack.Put(rest[api.MaxKey:], uint64(k.at))
	return append(putText(to, k.from), rest[len(k.from):]...)
}

func putText(to []byte, s string) []byte { return append(append(to, byte(len(s))), s...) }

// taken takes a node out of its block, without what is below it. If the block can be made of the node again, all is as it should be: the noughts and the sum, too.
func taken(b [api.Block]byte) node {
	var n node
	items, count := rest(b[itemsAt:itemsTo]), int(b[1])
	switch b[0] {
	case leafKind:
		n = leaf(takeItems(items, count, takePair))
	case branchKind:
		n = branch(takeItems(items, count, takeKid))
	}
	need(n != nil && n.block() == b)
	return n
}

func takeItems[T item](from rest, n int, take func(from *rest) T) []T {
	items := make([]T, n)
	for i := range items {
		items[i] = take(&from)
	}
	return items
}

func takePair(from *rest) pair {
	key := from.text(api.MaxKey)
	return pair{api.Pair{Key: key, Value: from.text(api.MaxValue)}}
}

func takeKid(from *rest) kid {
	key := from.text(api.MaxKey)
	from.bytes(api.MaxKey - len(key))
	return kid{from: key, at: from.number(atSize)}
}

// rest is what of a block was not taken yet.
type rest []byte

func (r *rest) bytes(n int) []byte {
	need(n <= len(*r))
	taken := (*r)[:n]
	*r = (*r)[n:]
	return taken
}

func (r *rest) number(size int) int { return int(pack.Number(r.bytes(size))) }

func (r *rest) text(most int) string {
	n := r.number(1)
	need(n <= most)
	return string(r.bytes(n))
}

// need throws ErrCorrupt unless what is read is as it should be.
func need(right bool) {
	if !right {
		fault.Throw("tree", api.ErrCorrupt)
	}
}
