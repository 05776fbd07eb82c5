package tree

import (
	"errors"
	"maps"
	"math/rand"
	"slices"
	"strings"
	"testing"

	"store/api"
	"store/fault"
	"store/pack"
)

// ground is blocks in which nodes were laid, by their numbers.
type ground map[int][api.Block]byte

// lay lays a tree down where nothing lies yet, and tells in how many blocks.
func (g ground) lay(tree Tree) (laid Tree, blocks int) {
	laid = tree.Laid(func(b [api.Block]byte) int {
		blocks++
		at := 2
		for _, used := g[at]; used; _, used = g[at] {
			at++
		}
		g[at] = b
		return at
	})
	return laid, blocks
}

// sweep leaves only what a tree takes.
func (g ground) sweep(tree Tree) {
	used := map[int]int{}
	tree.Blocks(func(at int) { used[at]++ })
	maps.DeleteFunc(g, func(at int, _ [api.Block]byte) bool { return used[at] == 0 })
}

// read reads a tree, of which each block is there, and is asked for once.
func (g ground) read(root int) (tree Tree, err error) {
	left := maps.Clone(g)
	err = fault.Catch("Read", func() {
		tree = Read(root, func(at int) [api.Block]byte {
			b, has := left[at]
			need(has)
			delete(left, at)
			return b
		})
	})
	return tree, err
}

// The tree is laid again and again while it changes: what was laid stays untouched, only what is new is laid, and what is read is what was laid.
func TestLaidAndRead(t *testing.T) {
	r := rand.New(rand.NewSource(4))
	for name, next := range kinds(r) {
		t.Run(name, func(t *testing.T) {
			g, m := ground{}, map[string]string{}
			var tree Tree
			for i := range 1000 {
				p, was, changes := next(), tree, 1+r.Intn(2)*r.Intn(4)
				for range changes {
					if keys := slices.Sorted(maps.Keys(m)); r.Intn(1000) < i && len(keys) > 0 {
						k := keys[r.Intn(len(keys))]
						tree = tree.Delete(k)
						delete(m, k)
					} else {
						tree = tree.Put(p)
						m[p.Key] = p.Value
					}
					p = next()
				}
				laid, blocks := g.lay(tree)
				if most := changes * (2*max(high(was.top()), high(laid.top())) + 1); blocks > most {
					t.Fatalf("P12: %d changes take %d blocks, at most %d are right", changes, blocks, most)
				}
				if _, again := g.lay(laid); again != 0 {
					t.Fatalf("P12: laid again, without a change, in %d blocks", again)
				}
				g.sweep(laid)
				if len(g) != laid.Nodes() {
					t.Fatalf("P8: %d nodes lie in %d blocks", laid.Nodes(), len(g))
				}
				back, err := g.read(laid.Root())
				if err != nil {
					t.Fatal("P8: what was laid is not read:", err)
				}
				if tree = laid; i%10 == 0 {
					whole(t, laid, m)
					whole(t, back, m)
				}
				if r.Intn(3) == 0 {
					tree = back
				}
			}
		})
	}
}

// A tree that is empty takes no block, whether it ever had something or not.
func TestLaidEmpty(t *testing.T) {
	for _, tree := range []Tree{{}, Tree{}.Delete("a"), Tree{}.Put(api.Pair{Key: "a"}).Delete("a")} {
		g := ground{}
		laid, blocks := g.lay(tree)
		if blocks != 0 || laid.Root() != Nowhere || laid.Nodes() != 0 {
			t.Errorf("an empty tree takes %d blocks, root %d", blocks, laid.Root())
		}
		laid.Blocks(func(at int) { t.Errorf("an empty tree lies in block %d", at) })
		if back, err := g.read(Nowhere); err != nil || back.Nodes() != 0 {
			t.Errorf("P4: read: %d nodes, %v", back.Nodes(), err)
		}
	}
}

// To lay a tree leaves it as it was, with those that it was made of, and that are made of it.
func TestLaidLeavesTheTree(t *testing.T) {
	var tree Tree
	m := map[string]string{}
	for i := range 100 {
		tree, m[long(i).Key] = tree.Put(long(i)), long(i).Value
	}
	g := ground{}
	laid, blocks := g.lay(tree)
	if again, count := g.lay(tree); count != blocks || again.Root() == laid.Root() {
		t.Error("the tree was changed when it was laid")
	}
	more := laid.Put(long(200))
	if more.Root() != Nowhere || laid.Root() == Nowhere {
		t.Error("a change has no new root, or takes the old one's")
	}
	whole(t, tree, m)
	whole(t, laid, m)
}

func TestDeleteOfNothingLaysNothing(t *testing.T) {
	g := ground{}
	tree, _ := g.lay(Tree{}.Put(long(1)).Put(long(2)))
	if same, blocks := g.lay(tree.Delete("a")); blocks != 0 || same.Root() != tree.Root() {
		t.Errorf("P12: nothing is deleted, and %d blocks are laid", blocks)
	}
}

func TestBlock(t *testing.T) {
	want := func(s string) (b [api.Block]byte) {
		copy(b[:], s)
		pack.Seal(b[:])
		return b
	}
	for _, c := range []struct {
		n    node
		want string
	}{
		{leaf{{api.Pair{Key: "a"}}}, "L\x01\x01a\x00"},
		{leaf{{api.Pair{Key: "a", Value: "12"}}, {api.Pair{Key: "bcdefghi", Value: "twelve bytes"}}}, "L\x02\x01a\x0212\x08bcdefghi\x0ctwelve bytes"},
		{branch{{from: "", at: 2}, {from: "12345678", at: 0x18f}}, "B\x02\x00\x00\x00\x00\x00\x00\x00\x00\x00\x02\x00\x0812345678\x8f\x01"},
	} {
		if b := c.n.block(); b != want(c.want) {
			t.Errorf("a block of %v is %q", c.n, b)
		}
		if n := taken(c.n.block()); n.block() != c.n.block() || n.size() != c.n.size() {
			t.Errorf("%v comes out as %v", c.n, n)
		}
	}
}

// full is a leaf of four long pairs, from the i-th on.
func full(i int) leaf {
	var l leaf
	for j := range 4 {
		l = append(l, pair{long(i + j)})
	}
	return l
}

// over is a branch over the nodes in these blocks, which begin with the long pairs of these numbers.
func over(from string, ats []int, firsts ...int) branch {
	b := branch{{from: from, at: ats[0]}}
	for i, at := range ats[1:] {
		b = append(b, kid{from: long(firsts[i]).Key, at: at})
	}
	return b
}

// reads fails unless a tree with these blocks, whose root is block 2, is told to be whole or not.
func reads(t *testing.T, what string, g ground, right bool) {
	t.Helper()
	_, err := g.read(2)
	if right && err != nil || !right && !errors.Is(err, api.ErrCorrupt) {
		t.Errorf("P4: %s: %v", what, err)
	}
}

// Nodes of which each is whole by itself, but which are no tree together.
func TestNoTree(t *testing.T) {
	put := func(nodes ...node) ground {
		g := ground{}
		for i, n := range nodes {
			g[2+i] = n.block()
		}
		return g
	}
	a, b, c := full(0), full(10), full(20)
	few := leaf{{long(10)}}
	reads(t, "a leaf", put(few), true)
	reads(t, "two leaves", put(over("", []int{3, 4}, 10), a, b), true)
	reads(t, "three leaves, in another order", put(over("", []int{4, 5, 3}, 10, 20), c, a, b), true)
	reads(t, "a border below the keys behind it", put(over("", []int{3, 4}, 7), a, b), true)

	reads(t, "an empty leaf", put(leaf{}), false)
	reads(t, "an empty key", put(leaf{{api.Pair{}}}), false)
	reads(t, "an empty branch", put(branch{}), false)
	reads(t, "a branch over one", put(over("", []int{3}), a), false)
	reads(t, "keys that fall", put(leaf{{long(2)}, {long(1)}}), false)
	reads(t, "a key twice", put(leaf{{long(1)}, {long(1)}}), false)
	reads(t, "borders that fall", put(over("", []int{3, 4, 5}, 20, 10), a, c, b), false)
	reads(t, "a border twice", put(over("", []int{3, 4, 5}, 10, 10), a, b, c), false)
	reads(t, "a first border that is not empty", put(over("a", []int{3, 4}, 10), a, b), false)
	reads(t, "a key below its border", put(over("", []int{3, 4}, 11), a, b), false)
	reads(t, "a key at the border behind it", put(over("", []int{3, 4}, 3), a, b), false)
	reads(t, "a key beyond the border behind it", put(over("", []int{3, 4, 5}, 10, 12), a, b, c), false)
	reads(t, "too small a leaf", put(over("", []int{3, 4}, 10), a, few), false)
	reads(t, "leaves in the wrong order", put(over("", []int{4, 3}, 10), a, b), false)
	reads(t, "a block twice", put(over("", []int{3, 3}, 10), a), false)
	reads(t, "itself", put(over("", []int{2, 3}, 10), a), false)
	reads(t, "no such block", put(over("", []int{3, 9}, 10), a), false)
	reads(t, "no block", put(over("", []int{3, Nowhere}, 10), a), false)
}

// Trees of three floors: what is wrong lies far below, or between the floors.
func TestNoHighTree(t *testing.T) {
	leaves := func(g ground, at, from int) (ats []int, firsts []int) {
		for i := range 4 {
			g[at+i] = full(from + 10*i).block()
			ats, firsts = append(ats, at+i), append(firsts, from+10*i)
		}
		return ats, firsts[1:]
	}
	put := func(root branch, left, right func(ats, firsts []int) branch) ground {
		g := ground{2: root.block()}
		g[3] = left(leaves(g, 10, 0)).block()
		g[4] = right(leaves(g, 20, 100)).block()
		return g
	}
	from := func(from string) func(ats, firsts []int) branch {
		return func(ats, firsts []int) branch { return over(from, ats, firsts...) }
	}
	root, key := over("", []int{3, 4}, 100), long(100).Key
	reads(t, "three floors", put(root, from(""), from(key)), true)
	reads(t, "a border that is not the one above", put(root, from(""), from(long(99).Key)), false)
	reads(t, "a border that is empty, in the midst", put(root, from(""), from("")), false)
	reads(t, "too small a branch", put(root, from(""), func(ats, firsts []int) branch { return over(key, ats[:3], firsts[:2]...) }), false)
	reads(t, "keys beyond the border of the floor above", put(over("", []int{3, 4}, 25), from(""), from(long(25).Key)), false)
	reads(t, "a border beyond the one above", put(over("", []int{3, 4}, 30), from(""), from(long(30).Key)), false)
	uneven := put(over("", []int{3, 4, 30}, 100, 200), from(""), from(key))
	uneven[30] = full(200).block()
	reads(t, "leaves on different floors", uneven, false)
}

// Blocks that were not made of a node, though their sums are right.
func TestNoNode(t *testing.T) {
	for what, s := range map[string]string{
		"noughts":            "",
		"no kind":            "M\x01\x01a\x00",
		"too great a number": "L\x02\x01a\x00",
		"too small a number": "L\x01\x01a\x00\x01b\x00",
		"no number":          "L",
		"the greatest":       "L\xff" + strings.Repeat("\x01a\x00", 40),
		"too many kids":      "B\xff" + strings.Repeat("\x01a\x00\x00\x00\x00\x00\x00\x00\x02\x00", 11),
		"too long a key":     "L\x01\x09abcdefghi\x00",
		"too long a value":   "L\x01\x01a\x0dthirteen byte",
		"too long a border":  "B\x02\x00\x00\x00\x00\x00\x00\x00\x00\x00\x03\x00\x09abcdefghi\x04\x00",
		"no end of a value":  "L\x06" + strings.Repeat("\x08abcdefgh\x0ctwelve bytes", 5) + "\x08abcdefgh\x0c",
		"no end of a key":    "L\x06" + strings.Repeat("\x08abcdefgh\x0ctwelve bytes", 5) + "\x01i\x03ttt\x08",
		"not noughts":        "L\x01\x01a\x00" + strings.Repeat("\x00", 100) + "x",
		"not noughts inside": "B\x02\x00x\x00\x00\x00\x00\x00\x00\x00\x03\x00\x0812345678\x04\x00",
	} {
		var b [api.Block]byte
		copy(b[:itemsTo], s)
		pack.Seal(b[:])
		reads(t, what, ground{2: b}, false)
	}
}

func TestTurnedBitsOfNodes(t *testing.T) {
	for _, n := range []node{full(0), leaf{{api.Pair{Key: "a"}}}, over("", []int{3, 4, 5}, 10, 20)} {
		for bit := range 8 * api.Block {
			b := n.block()
			b[bit/8] ^= 1 << (bit % 8)
			if err := fault.Catch("Taken", func() { taken(b) }); !errors.Is(err, api.ErrCorrupt) {
				t.Fatalf("P13: bit %d of a block is turned: %v", bit, err)
			}
		}
	}
}

// On its way a walk is told of each node once, those above ahead of those below.
func TestBlocks(t *testing.T) {
	var tree Tree
	for i := range 200 {
		tree = tree.Put(long(i))
	}
	laid, _ := ground{}.lay(tree)
	var ats []int
	laid.Blocks(func(at int) { ats = append(ats, at) })
	if len(ats) != laid.Nodes() || ats[0] != laid.Root() {
		t.Errorf("%d nodes lie in %d blocks, the first is %d", laid.Nodes(), len(ats), ats[0])
	}
	if slices.Sort(ats); len(slices.Compact(ats)) != laid.Nodes() {
		t.Error("a block is named twice")
	}
}
