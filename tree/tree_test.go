package tree_test

import (
	"maps"
	"slices"
	"testing"

	"cistern/api"
	"cistern/cache"
	"cistern/disk"
	"cistern/node"
	"cistern/refs"
	"cistern/tree"
)

const back = 2 // so many blocks of a stand are kept back

// leaves: leaves of so many keys each, that rise by ten from one to the next; each value is a block of its own. The couples are what stands for them in the node ahead.
func (x *stand) leaves(next *uint64, fills []int) []couple {
	x.t.Helper()
	var l []couple
	for _, fill := range fills {
		n := api.Node{Leaf: true}
		for range fill {
			*next += 10
			n.Keys, n.Vals = append(n.Keys, *next), append(n.Vals, x.data())
		}
		l = append(l, couple{n.Keys[0], x.create(n)})
	}
	return l
}

// inner: an inner node of these.
func (x *stand) inner(l []couple) couple { return couple{l[0].key, x.create(of(false, l))} }

// built: the root of a tree of inner nodes of such leaves; of a tree of one inner node, if there are no more; of a leaf, if it has no other.
func (x *stand) built(fills [][]int) uint64 {
	x.t.Helper()
	next := uint64(0)
	var tops []couple
	for _, f := range fills {
		l := x.leaves(&next, f)
		if len(l) == 1 {
			return l[0].val
		}
		tops = append(tops, x.inner(l))
	}
	if len(tops) == 1 {
		return tops[0].val
	}
	return x.inner(tops).val
}

// ways to have a tree: what is done with it ahead of a call, and what is held beside the root then.
var held = []struct {
	name string
	do   func(x *stand, root uint64) []uint64
}{
	{"fresh", func(x *stand, root uint64) []uint64 { return nil }},
	{"committed", func(x *stand, root uint64) []uint64 {
		x.commit()
		return nil
	}},
	{"held", func(x *stand, root uint64) []uint64 {
		x.inc(root)
		return []uint64{root}
	}},
	{"held and committed", func(x *stand, root uint64) []uint64 {
		x.inc(root)
		x.commit()
		return []uint64{root}
	}},
	{"its last part held", func(x *stand, root uint64) []uint64 {
		n := x.p.nodes[root]
		if n.Leaf {
			return nil
		}
		part := n.Vals[len(n.Vals)-1]
		x.inc(part)
		return []uint64{part}
	}},
}

// changed: that a call is right in each way to have the tree: what it tells, counts and leaves is what plain has, the tree is right and has these pairs, what is held has what it had.
func changed(x *stand, root, key uint64, call func(y *stand, root, key uint64) uint64) {
	x.t.Helper()
	for _, way := range held {
		y := x.copied()
		others := way.do(y, root)
		var had []map[uint64]uint64
		for _, other := range others {
			had = append(had, y.p.pairs(other))
		}
		to := call(y, root, key)
		y.right(to)
		y.has(to, y.p.pairs(to), key-1, key, key+1)
		for i, other := range others {
			if !maps.Equal(y.p.pairs(other), had[i]) {
				x.t.Fatalf("%s: behind a call of %d another tree has %v, want %v", way.name, key, y.p.pairs(other), had[i])
			}
		}
		y.counted(back, append(others, to))
	}
}

// put: Insert of a key with a block of its own; the old value is counted once less.
func put(x *stand, root, key uint64) uint64 {
	x.t.Helper()
	had := x.p.pairs(root)
	val := x.data()
	to, e := x.insert(root, key, val)
	if e != api.OK {
		x.t.Fatalf("Insert of %d: %d", key, e)
	}
	if x.p.there {
		x.dec(x.p.old)
	}
	had[key] = val
	if !maps.Equal(x.p.pairs(to), had) {
		x.t.Fatalf("behind Insert of %d the tree has %v, want %v", key, x.p.pairs(to), had)
	}
	return to
}

// take: Remove of a key; the old value is counted once less.
func take(x *stand, root, key uint64) uint64 {
	x.t.Helper()
	had := x.p.pairs(root)
	to, e := x.remove(root, key)
	if e != api.OK {
		x.t.Fatalf("Remove of %d: %d", key, e)
	}
	if x.p.there {
		x.dec(x.p.old)
	}
	delete(had, key)
	if !maps.Equal(x.p.pairs(to), had) {
		x.t.Fatalf("behind Remove of %d the tree has %v, want %v", key, x.p.pairs(to), had)
	}
	return to
}

// P11.3 and P11.4, a root that is a leaf, with each number of keys: each key that it has, and those below, between and behind them.
func TestLeafRoot(t *testing.T) {
	for fill := 1; fill <= api.MaxKeys; fill++ {
		x := anew(t, 64, back, 64)
		root := x.built([][]int{{fill}})
		for key := uint64(0); key <= uint64(fill+1)*10; key += 5 {
			changed(x, root, key, put)
			changed(x, root, key, take)
		}
		changed(x, root, greatest, put)
		changed(x, root, greatest, take)
	}
}

// P11.3 and P11.4, an inner root of two leaves, and of three, with each number of keys in each: splits, joins, what is made even, with the neighbour behind and ahead.
func TestTwoAndThreeLeaves(t *testing.T) {
	var shapes [][]int
	for a := tree.MinKeys; a <= api.MaxKeys; a++ {
		for b := tree.MinKeys; b <= api.MaxKeys; b++ {
			shapes = append(shapes, []int{a, b})
			for _, c := range []int{4, 5, 8} {
				shapes = append(shapes, []int{a, b, c})
			}
		}
	}
	for _, shape := range shapes {
		x := anew(t, 64, back, 64)
		root := x.built([][]int{shape})
		for _, key := range slices.Sorted(maps.Keys(x.p.pairs(root))) {
			changed(x, root, key, take)
		}
		for _, key := range []uint64{0, 5, 10, 15, 45, 46, 50, 51, 85, greatest} {
			changed(x, root, key, put)
		}
		changed(x, root, 11, take)
	}
}

// P11.3 and P11.4, of leaves that have fewer keys than a right tree's: what the chapter's words make of them all the same.
func TestFewKeys(t *testing.T) {
	for _, shape := range [][]int{{2, 2}, {2, 4}, {2, 8}, {3, 5}, {8, 2}, {4, 2}, {2, 7, 2}, {2, 2, 8}, {4, 2, 4}} {
		x := anew(t, 64, back, 64)
		root := x.built([][]int{shape})
		for _, key := range slices.Sorted(maps.Keys(x.p.pairs(root))) {
			for _, way := range held {
				for _, call := range []func(*stand, uint64, uint64) uint64{put, take} {
					y := x.copied()
					way.do(y, root)
					call(y, root, key)
				}
			}
		}
	}
}

// P11.3 and P11.4, a root of inner nodes: splits up to the root, joins down from the root, inner nodes made even.
func TestThreeLevels(t *testing.T) {
	least, most := []int{4, 4, 4, 4}, []int{8, 8, 8, 8, 8, 8, 8, 8}
	five := []int{4, 4, 4, 4, 4}
	for _, fills := range [][][]int{
		{least, least}, {least, five}, {five, least}, {least, most}, {most, least}, {most, most},
		{least, least, least}, {five, least, most}, {most, least, five},
		{least, least, {8, 4, 8, 4, 8, 4}, most},
		{most, least, least, least, five, most, least, least},
	} {
		x := anew(t, 512, back, 64)
		root := x.built(fills)
		keys := slices.Sorted(maps.Keys(x.p.pairs(root)))
		for i, key := range keys {
			if len(keys) > 60 && i%7 != 0 && i+5 < len(keys) {
				continue
			}
			changed(x, root, key, take)
			if i%3 == 0 {
				changed(x, root, key, put)
				changed(x, root, key-1, put)
			}
		}
		changed(x, root, keys[len(keys)-1]+1, put)
	}
}

// P11.3, a root that is full, of inner nodes that are full: what is put in anywhere splits them all, and there is a root above.
func TestAllSplit(t *testing.T) {
	x := anew(t, 1024, back, 1024)
	most := []int{8, 8, 8, 8, 8, 8, 8, 8}
	root := x.built([][]int{most, most, most, most, most, most, most, most})
	for _, key := range []uint64{0, 45, 2505, 5121, greatest} {
		changed(x, root, key, func(y *stand, root, key uint64) uint64 {
			to := put(y, root, key)
			if n := y.p.nodes[to]; n.Leaf || len(n.Keys) != 2 {
				t.Errorf("the root is %v", n)
			}
			return to
		})
	}
}

// P11.2 to P11.4: the empty tree.
func TestEmptyTree(t *testing.T) {
	for _, key := range []uint64{0, 1, 5, 1 << 63, greatest} {
		x := anew(t, 16, back, 4)
		if val, there, e := tree.Lookup(x.s, 0, key); val != 0 || there || e != api.OK {
			t.Errorf("Lookup = %d, %t, %d", val, there, e)
		}
		if root, old, there, e := tree.Remove(x.s, 0, key); root != 0 || old != 0 || there || e != api.OK {
			t.Errorf("Remove = %d, %d, %t, %d", root, old, there, e)
		}
		root := put(x, 0, key)
		if root != 3 || !node.Same(x.p.nodes[root], leaf(2, key)) {
			t.Errorf("the root is %d: %v", root, x.p.nodes[root])
		}
		changed(x, root, key, put)
		changed(x, root, key, take)
	}
}

// P11.3: ErrArg, if val is 0, ahead of all else, and nothing changes.
func TestValNought(t *testing.T) {
	x := anew(t, 32, back, 32)
	root := x.built([][]int{{4, 4}})
	x.inc(root)
	x.stays("Insert of 0", func() {
		for _, at := range []uint64{0, root, 1, 31, 32, last, last + 1, greatest} {
			for _, key := range []uint64{0, 10, 11, greatest} {
				if to, old, there, e := tree.Insert(x.s, at, key, 0); to != 0 || old != 0 || there || e != api.ErrArg {
					t.Errorf("Insert = %d, %d, %t, %d", to, old, there, e)
				}
			}
		}
	})
}

// P11.3: a value may be any but 0; nobody asks whether there is such a block.
func TestAnyValue(t *testing.T) {
	for _, val := range []uint64{1, 100, 1024, last, last + 1, 1 << 32, 1 << 63, greatest} {
		x := anew(t, 16, back, 4)
		root, e := x.insert(0, 5, val)
		if e != api.OK {
			t.Fatalf("Insert of %d: %d", val, e)
		}
		x.has(root, map[uint64]uint64{5: val}, 0, 4, 5, 6, greatest)
		if root, e = x.insert(root, 5, greatest-val+1); e != api.OK || x.p.old != val {
			t.Fatalf("Insert over %d: %d, %d", val, x.p.old, e)
		}
		if _, e = x.remove(root, 5); e != api.OK {
			t.Fatalf("Remove of %d: %d", val, e)
		}
	}
}

// P11.4: of a key that is not there nothing changes, and the root is told, whatever is held.
func TestRemoveOfNone(t *testing.T) {
	x := anew(t, 128, back, 128)
	root := x.built([][]int{{4, 5, 8, 4}, {4, 4, 4, 4}})
	pairs := x.p.pairs(root)
	for _, way := range held {
		y := x.copied()
		way.do(y, root)
		y.stays("Remove of a key that is not there", func() {
			for key := uint64(0); key < 400; key++ {
				if _, there := pairs[key]; there {
					continue
				}
				if to, old, there, e := tree.Remove(y.s, root, key); to != root || old != 0 || there || e != api.OK {
					t.Fatalf("Remove of %d = %d, %d, %t, %d", key, to, old, there, e)
				}
			}
		})
	}
}

// P11.2: Lookup changes nothing, with whatever else stands there.
func TestLookup(t *testing.T) {
	x := anew(t, 256, back, 256)
	root := x.built([][]int{{4, 5, 8, 4}, {4, 4, 4, 4, 4}, {8, 8, 8, 8, 8, 8, 8, 8}})
	x.inc(root)
	x.stays("Lookup", func() { x.hasAll(root, x.p.pairs(root)) })
	for key, val := range x.p.pairs(root) {
		if got, there, e := tree.Lookup(x.s, root, key); got != val || !there || e != api.OK {
			t.Errorf("Lookup of %d = %d, %t, %d, want %d", key, got, there, e, val)
		}
	}
}

// P11.3: no room, for each number of free blocks: ErrFull where plain finds none, else the call is done.
func TestNoRoom(t *testing.T) {
	for _, fills := range [][][]int{{{8}}, {{8, 8}}, {{8, 8, 8, 8, 8, 8, 8, 8}}, {{4, 4, 4, 4}, {4, 4, 4, 4}}} {
		x := anew(t, 160, back, 160)
		root := x.built(fills)
		for _, way := range held {
			for free := range 10 {
				for _, key := range []uint64{5, 10, 45, greatest} {
					y := x.copied()
					way.do(y, root)
					val := y.data()
					for y.r.Free() > free {
						y.data()
					}
					y.insert(root, key, val)
					y = x.copied()
					way.do(y, root)
					for y.r.Free() > free {
						y.data()
					}
					y.remove(root, key)
				}
			}
		}
	}
}

// P11.3: a block can't be counted more often: ErrFull, too.
func TestCountedTooOften(t *testing.T) {
	x := anew(t, 64, back, 64)
	root := x.built([][]int{{4, 4}})
	val := x.p.pairs(root)[50]
	for range 254 {
		x.inc(val)
	}
	x.inc(root)
	if to, e := x.copied().insert(root, 20, 60); e != api.OK {
		t.Errorf("Insert beside it: %d, %d", to, e)
	}
	if to, e := x.copied().insert(root, 60, 60); e != api.ErrFull {
		t.Errorf("Insert into its leaf: %d, %d", to, e)
	}
	if to, e := x.copied().remove(root, 60); e != api.ErrFull {
		t.Errorf("Remove from its leaf: %d, %d", to, e)
	}
}

// row: a tree that is put into and taken out of, with others that were held on the way.
type row struct {
	x     *stand
	root  uint64
	roots []uint64
	had   []map[uint64]uint64
}

// hold: the tree is held once more.
func (w *row) hold() {
	w.x.t.Helper()
	if w.root != 0 {
		w.x.inc(w.root)
		w.roots = append(w.roots, w.root)
		w.had = append(w.had, w.x.p.pairs(w.root))
	}
}

// swap: what is held goes on, and the tree is held.
func (w *row) swap(i int) {
	if i < len(w.roots) {
		had := w.x.p.pairs(w.root)
		w.root, w.roots[i] = w.roots[i], w.root
		w.had[i] = had
	}
}

// good: that all is right, and has what it had.
func (w *row) good() {
	w.x.t.Helper()
	w.x.right(w.root)
	w.x.hasAll(w.root, w.x.p.pairs(w.root))
	for i, root := range w.roots {
		w.x.right(root)
		w.x.hasAll(root, w.had[i])
		if !maps.Equal(w.x.p.pairs(root), w.had[i]) {
			w.x.t.Fatalf("a tree that is held has %v, want %v", w.x.p.pairs(root), w.had[i])
		}
	}
	w.x.counted(back, append(slices.Clone(w.roots), w.root))
}

// P11.3 to P11.6: long rows of calls, with trees that are held, commits, and what was held changed in its turn; whatever the cache's room.
func TestRows(t *testing.T) {
	for seed := range uint64(18) {
		g := numbers(seed)
		room := []int{1, 2, 3, 8, 64, 1024}[seed%6]
		w := &row{x: anew(t, 700, back, room)}
		span := []uint64{12, 60, 120}[seed/2%3]
		for i := range 400 {
			key := g.Uint64N(span) * (greatest / span)
			if g.IntN(4) == 0 && i%200 > 100 || i%200 > 150 {
				w.root = take(w.x, w.root, key)
			} else {
				w.root = put(w.x, w.root, key)
			}
			switch g.IntN(40) {
			case 0:
				w.x.commit()
			case 1:
				if len(w.roots) < 3 {
					w.hold()
				}
			case 2:
				w.swap(g.IntN(3))
			}
			if i%40 == 0 {
				w.good()
			}
		}
		w.good()
		w.empty(g.Perm(int(span)), greatest/span)
	}
}

// empty: all trees are taken out of, key by key, until nothing is left: then all blocks are free behind a commit.
func (w *row) empty(order []int, step uint64) {
	w.x.t.Helper()
	for i := range append(w.roots, w.root) {
		for _, at := range order {
			w.root = take(w.x, w.root, uint64(at)*step)
		}
		if w.root != 0 {
			w.x.t.Fatalf("the root is %d, when all is taken out", w.root)
		}
		if i < len(w.roots) {
			w.swap(i)
		}
	}
	w.x.counted(back, nil)
	w.x.commit()
	if free := w.x.r.Free(); free != len(w.x.r.Counts())-back {
		w.x.t.Fatalf("%d blocks are free at last", free)
	}
}

// P11.5: keys put in, rising, falling and in other orders, and taken out again likewise, until nothing is left.
func TestInAndOut(t *testing.T) {
	const n = 150
	orders := map[string]func(i int) uint64{
		"rising":  func(i int) uint64 { return uint64(i) },
		"falling": func(i int) uint64 { return uint64(n - 1 - i) },
		"mixed":   func(i int) uint64 { return uint64(i * 77 % n) },
		"to and fro": func(i int) uint64 {
			if i%2 == 0 {
				return uint64(i / 2)
			}
			return uint64(n - 1 - i/2)
		},
	}
	for in, one := range orders {
		for out, other := range orders {
			x := anew(t, 512, back, 512)
			root := uint64(0)
			for i := range n {
				root = put(x, root, one(i))
				x.right(root)
			}
			if len(x.p.pairs(root)) != n {
				t.Fatalf("in %s: %d pairs", in, len(x.p.pairs(root)))
			}
			x.commit()
			for i := range n {
				root = take(x, root, other(i))
				x.right(root)
			}
			if root != 0 {
				t.Fatalf("in %s, out %s: the root is %d", in, out, root)
			}
			x.counted(back, nil)
		}
	}
}

// P11.5: each row of three calls on small trees, of which each beginning is held.
func TestShortRows(t *testing.T) {
	x := anew(t, 128, back, 128)
	root := x.built([][]int{{4, 4}})
	keys := []uint64{5, 10, 45, 50, 85}
	calls := []func(*stand, uint64, uint64) uint64{put, take}
	for code := range 1000 {
		y := x.copied()
		w := &row{x: y, root: root}
		for _, digit := range []int{code % 10, code / 10 % 10, code / 100} {
			w.hold()
			w.root = calls[digit/5](y, w.root, keys[digit%5])
		}
		w.good()
	}
}

// Example 1: Insert of 5: 100 into 0: a leaf, the root; the ninth key splits it: a root of two.
func TestExampleSplit(t *testing.T) {
	x := anew(t, 64, 4, 8)
	root, e := x.insert(0, 5, 100)
	if e != api.OK || root != 4 {
		t.Fatalf("Insert of 5 = %d, %d", root, e)
	}
	x.holds(root, leaf(100, 5))
	for key := uint64(6); key <= 12; key++ {
		if root, e = x.insert(root, key, 95+key); e != api.OK || root != 4 {
			t.Fatalf("Insert of %d = %d, %d", key, root, e)
		}
	}
	x.holds(4, leaf(100, 5, 6, 7, 8, 9, 10, 11, 12))
	if root, e = x.insert(root, 13, 108); e != api.OK || root != 6 {
		t.Fatalf("Insert of 13 = %d, %d", root, e)
	}
	x.holds(4, leaf(100, 5, 6, 7, 8, 9))
	x.holds(5, leaf(105, 10, 11, 12, 13))
	x.holds(6, api.Node{Keys: []uint64{5, 10}, Vals: []uint64{4, 5}})
}

// Example 2: Inc of the root, Insert of 5: 101: another root; Lookup of 5 in the old one: 100.
func TestExampleHeld(t *testing.T) {
	d, _ := disk.New(200)
	r, _ := refs.New(slices.Repeat([]byte{1}, 200))
	c, _ := cache.New(d, 8)
	s := tree.New(r, c)
	for _, at := range []int{10, 11} {
		r.Dec(at)
	}
	r.Commit()
	root, old, there, e := tree.Insert(s, 0, 5, 100)
	if root != 10 || old != 0 || there || e != api.OK {
		t.Fatalf("Insert = %d, %d, %t, %d", root, old, there, e)
	}
	r.Inc(int(root))
	other, old, there, e := tree.Insert(s, root, 5, 101)
	if other != 11 || old != 100 || !there || e != api.OK || r.Count(100) != 2 {
		t.Fatalf("Insert = %d, %d, %t, %d, and 100 is counted %d times", other, old, there, e, r.Count(100))
	}
	if val, there, e := tree.Lookup(s, root, 5); val != 100 || !there || e != api.OK {
		t.Errorf("Lookup in the old tree = %d, %t, %d", val, there, e)
	}
	if val, there, e := tree.Lookup(s, other, 5); val != 101 || !there || e != api.OK {
		t.Errorf("Lookup in the new tree = %d, %t, %d", val, there, e)
	}
}

// Example 3: Remove of all keys, one by one: the root is 0, all nodes are free behind a commit.
func TestExampleRemoved(t *testing.T) {
	x := anew(t, 64, 4, 8)
	root := uint64(0)
	for key := range uint64(30) {
		root, _ = x.insert(root, key, 1)
	}
	x.commit()
	for key := range uint64(30) {
		root, _ = x.remove(root, key)
	}
	if root != 0 {
		t.Errorf("the root is %d", root)
	}
	x.commit()
	if x.r.Free() != 60 {
		t.Errorf("%d blocks are free", x.r.Free())
	}
}
