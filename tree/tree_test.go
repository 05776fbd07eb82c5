package tree

import (
	"maps"
	"math/rand"
	"slices"
	"strings"
	"testing"

	"store/api"
)

// whole fails unless t is well built, and has what the map has.
func whole(t *testing.T, tree Tree, want map[string]string) {
	t.Helper()
	keys := slices.Sorted(maps.Keys(want))
	i := 0
	for p := range tree.All("", strings.Repeat("\xff", 9)) {
		if i == len(keys) || p.Key != keys[i] || p.Value != want[p.Key] {
			t.Fatalf("P7: pair %d is %q", i, p)
		}
		i++
	}
	if i != len(keys) {
		t.Fatalf("P7: %d pairs of %d", i, len(keys))
	}
	for _, k := range keys {
		if v, has := tree.Get(k); !has || v != want[k] {
			t.Fatalf("P6: %q has %q, %v, want %q", k, v, has, want[k])
		}
	}
	count := 0
	if len(keys) > 0 {
		built(t, tree.top(), true, "", strings.Repeat("\xff", 9), &count)
	}
	if count != tree.Nodes() {
		t.Fatalf("%d nodes, told %d", count, tree.Nodes())
	}
	if most := 1 + 2*len(keys)/3; count > most {
		t.Fatalf("P11: %d keys take %d nodes, at most %d are promised", len(keys), count, most)
	}
}

// built tells how high a node is, and fails unless it and all below it are of a right size, and their keys from lo on and less than hi.
func built(t *testing.T, n node, root bool, lo, hi string, count *int) (high int) {
	t.Helper()
	*count++
	if n.size() > room || !root && n.size() < least {
		t.Fatalf("a node takes %d bytes", n.size())
	}
	switch n := n.(type) {
	case leaf:
		for i, p := range n {
			if p.Key < lo || p.Key >= hi || i > 0 && p.Key <= n[i-1].Key {
				t.Fatalf("key %q lies between %q and %q", p.Key, lo, hi)
			}
		}
		return 1
	case branch:
		if len(n) < 2 || n[0].from != lo {
			t.Fatalf("a branch of %d kids, from %q, not %q", len(n), n[0].from, lo)
		}
		for i, k := range n {
			to := hi
			if i+1 < len(n) {
				to = n[i+1].from
			}
			if k.from >= to {
				t.Fatalf("a kid from %q to %q", k.from, to)
			}
			h := built(t, k.node, false, k.from, to, count)
			if i > 0 && h != high {
				t.Fatal("leaves at different heights")
			}
			high = h
		}
	}
	return high + 1
}

func high(n node) int {
	if b, ok := n.(branch); ok {
		return 1 + high(b[0].node)
	}
	return 1
}

// nodes gives each node's place in memory, and the number of its items: two nodes are one if these are.
func nodes(n node, into map[[2]any]int) {
	switch n := n.(type) {
	case leaf:
		if len(n) > 0 {
			into[[2]any{&n[0], len(n)}]++
		}
	case branch:
		into[[2]any{&n[0], len(n)}]++
		for _, k := range n {
			nodes(k.node, into)
		}
	}
}

// added tells how many nodes b has that a does not have.
func added(a, b Tree) int {
	old, now := map[[2]any]int{}, map[[2]any]int{}
	nodes(a.top(), old)
	nodes(b.top(), now)
	n := 0
	for k := range now {
		if old[k] == 0 {
			n++
		}
	}
	return n
}

// kinds of keys and values: short and long ones, equal in length or not, alike at their beginnings or not.
func kinds(r *rand.Rand) map[string]func() api.Pair {
	some := func(least, most int) string {
		b := make([]byte, least+r.Intn(most-least+1))
		for i := range b {
			b[i] = "\x00\x01ab\x7f\x80\xfe\xff"[r.Intn(8)]
		}
		return string(b)
	}
	return map[string]func() api.Pair{
		"any":   func() api.Pair { return api.Pair{Key: some(1, api.MaxKey), Value: some(0, api.MaxValue)} },
		"short": func() api.Pair { return api.Pair{Key: some(1, 2), Value: some(0, 1)} },
		"long": func() api.Pair {
			return api.Pair{Key: some(api.MaxKey, api.MaxKey), Value: some(api.MaxValue, api.MaxValue)}
		},
		"mixed": func() api.Pair {
			return api.Pair{Key: some(1, 3), Value: strings.Repeat("v", r.Intn(2)*api.MaxValue)}
		},
		"alike": func() api.Pair { return api.Pair{Key: "aaaa" + some(1, 4), Value: some(0, api.MaxValue)} },
	}
}

// The tree beside a map: it grows, is changed, and shrinks again; in the end all trees on the way are as they were.
func TestBesideMap(t *testing.T) {
	r := rand.New(rand.NewSource(1))
	for name, next := range kinds(r) {
		t.Run(name, func(t *testing.T) {
			var tree Tree
			m := map[string]string{}
			var trees []Tree
			var models []map[string]string
			for i := range 3000 {
				p, was := next(), tree
				away := r.Intn(3000) < i
				if keys := slices.Sorted(maps.Keys(m)); len(keys) > 0 && r.Intn(3) > 0 == away {
					p.Key = keys[r.Intn(len(keys))]
				}
				if away {
					tree = tree.Delete(p.Key)
					delete(m, p.Key)
					if tree.Nodes() > was.Nodes() {
						t.Fatal("P5: a Delete takes more nodes than there were")
					}
				} else {
					tree = tree.Put(p)
					m[p.Key] = p.Value
				}
				if n, most := added(was, tree), 2*high(tree.top())+1; n > most {
					t.Fatalf("P12: %d new nodes, at most %d are right", n, most)
				}
				if i%10 == 0 {
					whole(t, tree, m)
				}
				if i%250 == 0 {
					trees, models = append(trees, tree), append(models, maps.Clone(m))
				}
			}
			for i := range trees {
				whole(t, trees[i], models[i])
			}
		})
	}
}

// orders gives the numbers below n in several orders.
func orders(n int) map[string][]int {
	rise := make([]int, n)
	for i := range rise {
		rise[i] = i
	}
	fall := slices.Clone(rise)
	slices.Reverse(fall)
	var ends []int
	for i := range n {
		ends = append(ends, []int{i / 2, n - 1 - i/2}[i%2])
	}
	return map[string][]int{"rise": rise, "fall": fall, "ends": ends, "any": rand.New(rand.NewSource(2)).Perm(n)}
}

func long(i int) api.Pair {
	key := []byte("kkkkkk\x00\x00")
	key[6], key[7] = byte(i>>8), byte(i)
	return api.Pair{Key: string(key), Value: strings.Repeat(string(key[7:]), api.MaxValue)}
}

func TestOrders(t *testing.T) {
	const n = 300
	for in, puts := range orders(n) {
		for out, deletes := range orders(n) {
			t.Run(in+" "+out, func(t *testing.T) {
				var tree Tree
				m := map[string]string{}
				for i, k := range puts {
					p := long(k)
					tree = tree.Put(p)
					if m[p.Key] = p.Value; i%7 == 0 {
						whole(t, tree, m)
					}
				}
				if high(tree.top()) < 3 {
					t.Error("the tree is not high enough for this test")
				}
				for i, k := range deletes {
					tree = tree.Delete(long(k).Key)
					if delete(m, long(k).Key); i%7 == 0 {
						whole(t, tree, m)
					}
				}
				if tree.Nodes() != 0 {
					t.Errorf("nothing is left, in %d nodes", tree.Nodes())
				}
			})
		}
	}
}

// A value that is put again may be longer, or shorter: then nodes are halved, or joined, though no key comes or goes.
func TestValuesGrowAndShrink(t *testing.T) {
	var tree Tree
	m := map[string]string{}
	put := func(i, n int) {
		p := api.Pair{Key: long(i).Key, Value: strings.Repeat("v", n)}
		tree, m[p.Key] = tree.Put(p), p.Value
	}
	for i := range 200 {
		put(i, 0)
	}
	small := tree.Nodes()
	for _, i := range orders(200)["any"] {
		put(i, api.MaxValue)
		whole(t, tree, m)
	}
	if tree.Nodes() <= small {
		t.Error("longer values take no more nodes")
	}
	for _, i := range orders(200)["any"] {
		put(i, 0)
		whole(t, tree, m)
	}
}

func TestEmpty(t *testing.T) {
	var tree Tree
	whole(t, tree, nil)
	whole(t, tree.Delete("a"), nil)
	whole(t, tree.Put(api.Pair{Key: "a"}).Delete("a"), nil)
	if v, has := tree.Get("a"); v != "" || has {
		t.Errorf("P6: an empty tree has a: %q", v)
	}
}

func TestDeleteOfNothing(t *testing.T) {
	var tree Tree
	m := map[string]string{}
	for i := range 100 {
		p := long(2 * i)
		tree, m[p.Key] = tree.Put(p), p.Value
	}
	for i := range 100 {
		tree = tree.Delete(long(2*i + 1).Key)
		if _, has := tree.Get(long(2*i + 1).Key); has {
			t.Error("P6: a key is there that was never put")
		}
	}
	whole(t, tree.Delete("a").Delete("z"), m)
}

// Whatever the sizes, what is too big for a node is two of a right size when it is halved.
func TestHalve(t *testing.T) {
	r := rand.New(rand.NewSource(3))
	for range 20000 {
		var l leaf
		for measure(l) <= room {
			p := pair{api.Pair{Key: strings.Repeat("k", 1+r.Intn(api.MaxKey)), Value: strings.Repeat("v", r.Intn(api.MaxValue+1))}}
			if r.Intn(3) == 0 {
				p = pair{long(0)}
			}
			l = append(l, p)
		}
		left, right := halve(l)
		for _, half := range []leaf{left, right} {
			if n := measure(half); n < least || n > room {
				t.Fatalf("a half of %d bytes", n)
			}
		}
		if !slices.Equal(slices.Concat(left, right), l) {
			t.Fatal("the halves are not the whole")
		}
	}
	for n := room/kid.size(kid{}) + 1; n < 2*room/kid.size(kid{}); n++ {
		left, right := halve(make(branch, n))
		if measure(left) < least || measure(right) < least || measure(left) > room || measure(right) > room || len(left)+len(right) != n {
			t.Errorf("of %d kids the halves have %d and %d", n, len(left), len(right))
		}
	}
}

// To lengthen one half is not to write into the other.
func TestHalvesAreApart(t *testing.T) {
	l := leaf{{api.Pair{Key: "a"}}, {api.Pair{Key: "b"}}}
	left, right := halve(l)
	_ = append(left, pair{api.Pair{Key: "z"}})
	if right[0].Key != "b" {
		t.Error("the other half was changed")
	}
}

func TestMeasure(t *testing.T) {
	for _, c := range []struct {
		l    leaf
		want int
	}{{nil, 0}, {leaf{{api.Pair{Key: "a"}}}, 3}, {leaf{{api.Pair{Key: "a", Value: "b"}}, {long(1)}}, 4 + 22}} {
		if n := measure(c.l); n != c.want {
			t.Errorf("%v takes %d bytes, want %d", c.l, n, c.want)
		}
	}
	if n := measure(branch{{from: ""}, {from: "12345678"}}); n != 22 {
		t.Errorf("two kids take %d bytes", n)
	}
}

func TestAllStops(t *testing.T) {
	var tree Tree
	for i := range 100 {
		tree = tree.Put(long(i))
	}
	for stop := range 101 {
		n := 0
		tree.All("", "z")(func(p api.Pair) bool {
			if n > stop || p != long(n) {
				t.Fatalf("P7: told to stop at %d: pair %d is %q", stop, n, p)
			}
			n++
			return n <= stop
		})
		if n != min(stop+1, 100) {
			t.Errorf("P7: told to stop at %d: %d pairs", stop, n)
		}
	}
}
