package stretch_test

import (
	"math/rand/v2"
	"slices"
	"testing"

	"cistern/api"
	"cistern/cache"
	"cistern/disk"
	"cistern/refs"
	"cistern/stretch"
	"cistern/tree"
)

const (
	greatest = 1<<64 - 1
	maxInt   = int(^uint(0) >> 1)
	back     = 2 // so many blocks of a stand are kept back
)

// numbers: the same pseudo-random numbers in each run.
func numbers(seed uint64) *rand.Rand { return rand.New(rand.NewPCG(12, seed)) }

// stand: a shelf, and what it stands on.
type stand struct {
	t *testing.T
	d *disk.Disk
	r *refs.Refs
	c *cache.Cache
	s *tree.Shelf
}

// on: a stand on these.
func on(t *testing.T, d *disk.Disk, r *refs.Refs, room int) *stand {
	t.Helper()
	c, e := cache.New(d, room)
	if e != api.OK {
		t.Fatal("cache.New:", e)
	}
	return &stand{t, d, r, c, tree.New(r, c)}
}

// anew: a stand of so many blocks, over a cache of that room.
func anew(t *testing.T, blocks, room int) *stand {
	t.Helper()
	d, e := disk.New(blocks)
	if e != api.OK {
		t.Fatal("disk.New:", e)
	}
	counts := make([]byte, blocks)
	for at := range back {
		counts[at] = 1
	}
	r, e := refs.New(counts)
	if e != api.OK {
		t.Fatal("refs.New:", e)
	}
	return on(t, d, r, room)
}

// copied: another stand that is the same, over a cache of that room, and lives apart.
func (x *stand) copied(room int) *stand {
	x.t.Helper()
	if e := x.c.Flush(); e != api.OK {
		x.t.Fatal("Flush:", e)
	}
	return on(x.t, x.d.Copy(), x.r.Copy(), room)
}

// data: a block is handed out for something that is no node.
func (x *stand) data() uint64 {
	x.t.Helper()
	at, e := x.r.Alloc()
	if e != api.OK {
		x.t.Fatal("Alloc:", e)
	}
	return uint64(at)
}

// full: no more than so many blocks are free then.
func (x *stand) full(free int) {
	x.t.Helper()
	for x.r.Free() > free {
		x.data()
	}
}

// inc, dec, commit: of the Refs.
func (x *stand) inc(at uint64) {
	x.t.Helper()
	if e := x.r.Inc(int(at)); e != api.OK {
		x.t.Fatal("Inc:", e)
	}
}

func (x *stand) dec(at uint64) {
	x.t.Helper()
	if _, e := x.r.Dec(int(at)); e != api.OK {
		x.t.Fatal("Dec:", e)
	}
}

func (x *stand) commit() {
	x.t.Helper()
	if e := x.r.Commit(); e != api.OK {
		x.t.Fatal("Commit:", e)
	}
}

// node: what stands at a block.
func (x *stand) node(at uint64) api.Node {
	x.t.Helper()
	n, e := x.s.Load(at)
	if e != api.OK {
		x.t.Fatalf("Load(%d): %d", at, e)
	}
	return n
}

// create: a node of these pairs, in a block of its own.
func (x *stand) create(leaf bool, pairs ...stretch.Pair) uint64 {
	x.t.Helper()
	at, e := x.s.Make(nodeOf(leaf, pairs))
	if e != api.OK {
		x.t.Fatal("Make:", e)
	}
	return at
}

// save: a node of these pairs, at that block.
func (x *stand) save(at uint64, leaf bool, pairs ...stretch.Pair) {
	x.t.Helper()
	if e := x.s.Save(at, nodeOf(leaf, pairs)); e != api.OK {
		x.t.Fatal("Save:", e)
	}
}

func nodeOf(leaf bool, pairs []stretch.Pair) api.Node {
	n := api.Node{Leaf: leaf}
	for _, p := range pairs {
		n.Keys, n.Vals = append(n.Keys, p.Key), append(n.Vals, p.Val)
	}
	return n
}

// leaf: of these keys; each value is a block of its own. What stands for it in the node ahead is told.
func (x *stand) leaf(keys []uint64) stretch.Pair {
	x.t.Helper()
	var pairs []stretch.Pair
	for _, key := range keys {
		pairs = append(pairs, stretch.Pair{Key: key, Val: x.data()})
	}
	return stretch.Pair{Key: keys[0], Val: x.create(true, pairs...)}
}

// above: an inner node of these; that one alone, if there is no more.
func (x *stand) above(pairs []stretch.Pair) stretch.Pair {
	x.t.Helper()
	if len(pairs) == 1 {
		return pairs[0]
	}
	return stretch.Pair{Key: pairs[0].Key, Val: x.create(false, pairs...)}
}

// shape: how many keys each leaf of a tree has, by the inner nodes beneath the root.
type shape [][]int

// size: how many keys the tree has.
func (s shape) size() int {
	all := 0
	for _, fill := range slices.Concat(s...) {
		all += fill
	}
	return all
}

// built: the root of a tree of that shape: of the empty one, of one level, two, or three. Its keys are what is told of their places.
func (x *stand) built(fills shape, key func(i int) uint64) uint64 {
	x.t.Helper()
	at := 0
	var tops []stretch.Pair
	for _, fill := range fills {
		var leaves []stretch.Pair
		for _, n := range fill {
			keys := make([]uint64, n)
			for i := range keys {
				keys[i] = key(at + i)
			}
			at += n
			leaves = append(leaves, x.leaf(keys))
		}
		tops = append(tops, x.above(leaves))
	}
	if len(tops) == 0 {
		return 0
	}
	return x.above(tops).Val
}

// tens: the keys 10, 20 and so on.
func tens(i int) uint64 { return uint64(i+1) * 10 }

// dense: the keys 0, 1 and so on.
func dense(i int) uint64 { return uint64(i) }

// wide: so many keys from 0 to the greatest there is.
func wide(n int) func(i int) uint64 {
	return func(i int) uint64 {
		if i == n-1 && i > 0 {
			return greatest
		}
		return uint64(i) * (greatest / uint64(n))
	}
}

// shapes: trees of no level to three, of the least and the most keys that nodes may have, and others.
func shapes() []shape {
	l := []shape{{}}
	for fill := range api.MaxKeys {
		l = append(l, shape{{fill + 1}})
	}
	least, most := []int{4, 4, 4, 4}, []int{8, 8, 8, 8, 8, 8, 8, 8}
	return append(l,
		shape{{4, 4}}, shape{{8, 8}}, shape{{4, 7, 5}}, shape{least}, shape{{5, 8, 4, 6, 4, 8, 7, 4}},
		shape{least, least}, shape{{4, 5, 4, 6, 4}, least, {8, 4, 4, 8}}, shape{least, most},
	)
}

// listed: all pairs that stand at a block and beneath it, as the nodes tell it.
func (x *stand) listed(at uint64) []stretch.Pair {
	x.t.Helper()
	if at == 0 {
		return nil
	}
	var l []stretch.Pair
	n := x.node(at)
	for i, val := range n.Vals {
		if n.Leaf {
			l = append(l, stretch.Pair{Key: n.Keys[i], Val: val})
		} else {
			l = append(l, x.listed(val)...)
		}
	}
	return l
}

// between: of these pairs those whose keys are from from on and below to.
func between(pairs []stretch.Pair, from, to uint64) []stretch.Pair {
	var l []stretch.Pair
	for _, p := range pairs {
		if p.Key >= from && p.Key < to {
			l = append(l, p)
		}
	}
	return l
}

// without: of these pairs the others.
func without(pairs []stretch.Pair, from, to uint64) []stretch.Pair {
	var l []stretch.Pair
	for _, p := range pairs {
		if p.Key < from || p.Key >= to {
			l = append(l, p)
		}
	}
	return l
}

// ends: keys at which stretches begin and end: each of these pairs', those beside it, and both ends.
func ends(pairs []stretch.Pair) []uint64 {
	l := []uint64{0, 1, greatest - 1, greatest}
	for _, p := range pairs {
		l = append(l, p.Key-1, p.Key, p.Key+1) // round at both ends: those stand there all the same
	}
	slices.Sort(l)
	return slices.Compact(l)
}

// state: all that is seen of a stand: counts, what is fresh, what is free, and each block's bytes.
func (x *stand) state() string {
	x.t.Helper()
	all := []byte(x.counted())
	for at := range x.r.Counts() {
		b, e := x.c.Get(at)
		if e != api.OK {
			x.t.Fatalf("Get(%d): %d", at, e)
		}
		all = append(all, b...)
	}
	return string(all)
}

// counted: how often each block is counted, whether it is fresh, and how many are free.
func (x *stand) counted() string {
	all := x.r.Counts()
	for at := range all {
		if x.r.Fresh(at) {
			all = append(all, byte(at), byte(at>>8))
		}
	}
	return string(append(all, byte(x.r.Free()), byte(x.r.Free()>>8)))
}

// right: that a tree is right, as chapter 11 says it.
func (x *stand) right(root uint64) {
	x.t.Helper()
	if root == 0 {
		return
	}
	deep := 1
	for at := root; !x.node(at).Leaf; deep++ {
		at = x.node(at).Vals[0]
	}
	n := x.node(root)
	if deep > 12 || !n.Leaf && len(n.Keys) < 2 {
		x.t.Fatalf("the root is %v, %d nodes stand one beneath the other", n, deep)
	}
	x.rightAt(root, deep, 0, greatest)
}

// rightAt: that what stands at a block is right, so high, with keys from one to another one, and this one, too.
func (x *stand) rightAt(at uint64, high int, from, upto uint64) {
	x.t.Helper()
	n := x.node(at)
	if n.Leaf != (high == 1) {
		x.t.Fatalf("at %d stands %v, %d high", at, n, high)
	}
	for i, key := range n.Keys {
		if key < from || key > upto {
			x.t.Fatalf("the key %d stands at %d, where %d to %d may be", key, at, from, upto)
		}
		if n.Leaf {
			continue
		}
		last := upto
		if i+1 < len(n.Keys) {
			last = n.Keys[i+1] - 1
		}
		c := x.node(n.Vals[i])
		if c.Keys[0] != key || len(c.Keys) < tree.MinKeys {
			x.t.Fatalf("beneath the key %d stands %v", key, c)
		}
		x.rightAt(n.Vals[i], high-1, key, last)
	}
}

// pointed: that each block is counted as often as it is kept back, or pointed to by these roots and their trees' nodes.
func (x *stand) pointed(roots ...uint64) {
	x.t.Helper()
	want := make([]byte, len(x.r.Counts()))
	for at := range back {
		want[at]++
	}
	seen := map[uint64]bool{}
	var look func(at uint64)
	look = func(at uint64) {
		want[at]++
		if seen[at] {
			return
		}
		seen[at] = true
		n := x.node(at)
		for _, val := range n.Vals {
			if n.Leaf {
				want[val]++
			} else {
				look(val)
			}
		}
	}
	for _, root := range roots {
		if root != 0 {
			look(root)
		}
	}
	if got := x.r.Counts(); !slices.Equal(got, want) {
		x.t.Fatalf("the counts are\n%v, and pointed to are\n%v", got, want)
	}
}
