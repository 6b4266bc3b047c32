package share_test

import (
	"maps"
	"math/rand/v2"
	"slices"
	"testing"

	"cistern/api"
	"cistern/cache"
	"cistern/disk"
	"cistern/refs"
	"cistern/share"
	"cistern/stamp"
	"cistern/tree"
)

const (
	greatest = 1<<64 - 1
	back     = 2 // so many blocks of a stand are kept back
)

// numbers: the same pseudo-random numbers in each run.
func numbers(seed uint64) *rand.Rand { return rand.New(rand.NewPCG(13, seed)) }

// stand: a shelf, and what it stands on.
type stand struct {
	t *testing.T
	d *disk.Disk
	r *refs.Refs
	c *cache.Cache
	s *tree.Shelf
}

// on: a stand on these.
func on(t *testing.T, d *disk.Disk, r *refs.Refs, room int) *stand {
	t.Helper()
	c, e := cache.New(d, room)
	if e != api.OK {
		t.Fatal("cache.New:", e)
	}
	return &stand{t, d, r, c, tree.New(r, c)}
}

// anew: a stand of so many blocks, over a cache of that room.
func anew(t *testing.T, blocks, room int) *stand {
	t.Helper()
	d, e := disk.New(blocks)
	if e != api.OK {
		t.Fatal("disk.New:", e)
	}
	counts := make([]byte, blocks)
	for at := range back {
		counts[at] = 1
	}
	r, e := refs.New(counts)
	if e != api.OK {
		t.Fatal("refs.New:", e)
	}
	return on(t, d, r, room)
}

// copied: another stand that is the same, over a cache of that room, and lives apart.
func (x *stand) copied(room int) *stand {
	x.t.Helper()
	x.ok("Flush", x.c.Flush())
	return on(x.t, x.d.Copy(), x.r.Copy(), room)
}

// ok: that what was called told no error.
func (x *stand) ok(what string, e api.Errno) {
	x.t.Helper()
	if e != api.OK {
		x.t.Fatalf("%s: %d", what, e)
	}
}

// data: a block is handed out for something that is no node.
func (x *stand) data() uint64 {
	x.t.Helper()
	at, e := x.r.Alloc()
	x.ok("Alloc", e)
	return uint64(at)
}

// node: what stands at a block.
func (x *stand) node(at uint64) api.Node {
	x.t.Helper()
	n, e := x.s.Load(at)
	x.ok("Load", e)
	return n
}

// couple: a pair of a node.
type couple struct{ key, val uint64 }

func nodeOf(leaf bool, l []couple) api.Node {
	n := api.Node{Leaf: leaf}
	for _, c := range l {
		n.Keys, n.Vals = append(n.Keys, c.key), append(n.Vals, c.val)
	}
	return n
}

// create: a node in a block of its own; what stands for it in the node ahead is told.
func (x *stand) create(leaf bool, l ...couple) couple {
	x.t.Helper()
	at, e := x.s.Make(nodeOf(leaf, l))
	x.ok("Make", e)
	return couple{l[0].key, at}
}

// save: a node at that block.
func (x *stand) save(at uint64, leaf bool, l ...couple) {
	x.t.Helper()
	x.ok("Save", x.s.Save(at, nodeOf(leaf, l)))
}

// leaf: of these keys; each value is a block of its own.
func (x *stand) leaf(keys ...uint64) couple {
	x.t.Helper()
	var l []couple
	for _, key := range keys {
		l = append(l, couple{key, x.data()})
	}
	return x.create(true, l...)
}

// above: an inner node of these; that one alone, if there is no more.
func (x *stand) above(l []couple) couple {
	x.t.Helper()
	if len(l) == 1 {
		return l[0]
	}
	return x.create(false, l...)
}

// shape: how many keys each leaf of a tree has, by the inner nodes beneath the root.
type shape [][]int

// built: the root of a tree of that shape: of the empty one, of one level, two, or three. Its keys are 10, 20 and so on.
func (x *stand) built(fills shape) uint64 {
	x.t.Helper()
	key := uint64(0)
	var tops []couple
	for _, fill := range fills {
		var leaves []couple
		for _, n := range fill {
			keys := make([]uint64, n)
			for i := range keys {
				key += 10
				keys[i] = key
			}
			leaves = append(leaves, x.leaf(keys...))
		}
		tops = append(tops, x.above(leaves))
	}
	if len(tops) == 0 {
		return 0
	}
	return x.above(tops).val
}

// shapes: trees of no level to three, of the least and the most keys that nodes may have, and others.
func shapes() []shape {
	least, most := []int{4, 4, 4, 4}, []int{8, 8, 8, 8, 8, 8, 8, 8}
	return []shape{
		{}, {{1}}, {{2}}, {{5}}, {{8}},
		{{4, 4}}, {{8, 8}}, {{4, 7, 5}}, {least}, {{5, 8, 4, 6, 4, 8, 7, 4}}, {most},
		{least, least}, {{4, 5, 4, 6, 4}, least, {8, 4, 4, 8}}, {least, most},
	}
}

// overAll: what is done on a stand with a tree of each shape, fresh, and of the commit.
func overAll(t *testing.T, do func(x *stand, root uint64)) {
	t.Helper()
	for i, fills := range shapes() {
		x := anew(t, 192, []int{192, 1, 4, 32}[i%4])
		root := x.built(fills)
		do(x.copied(64), root)
		x.commit()
		do(x, root)
	}
}

// inc, commit: of the Refs.
func (x *stand) inc(at uint64) {
	x.t.Helper()
	x.ok("Inc", x.r.Inc(int(at)))
}

func (x *stand) commit() {
	x.t.Helper()
	x.ok("Commit", x.r.Commit())
}

// insert, remove: of a tree, whose old value is counted once less; the root then.
func (x *stand) insert(root, key, val uint64) uint64 {
	x.t.Helper()
	to, old, there, e := tree.Insert(x.s, root, key, val)
	x.ok("Insert", e)
	x.lose(old, there)
	return to
}

func (x *stand) remove(root, key uint64) uint64 {
	x.t.Helper()
	to, old, there, e := tree.Remove(x.s, root, key)
	x.ok("Remove", e)
	x.lose(old, there)
	return to
}

func (x *stand) lose(old uint64, there bool) {
	x.t.Helper()
	if there {
		_, e := x.r.Dec(int(old))
		x.ok("Dec", e)
	}
}

// clone, drop: as the calls do it.
func (x *stand) clone(root uint64) {
	x.t.Helper()
	x.ok("Clone", share.Clone(x.s, x.r, root))
}

func (x *stand) drop(root uint64) {
	x.t.Helper()
	x.ok("Drop", share.Drop(x.s, x.r, root))
}

// listed: all pairs that stand at a block and beneath it, as the nodes tell it.
func (x *stand) listed(at uint64) map[uint64]uint64 {
	x.t.Helper()
	all := map[uint64]uint64{}
	x.each(at, func(at uint64, n api.Node) {
		if n.Leaf {
			for i, key := range n.Keys {
				all[key] = n.Vals[i]
			}
		}
	})
	return all
}

// each: what is done with each node that stands at a block and beneath it, the ones ahead first.
func (x *stand) each(at uint64, do func(at uint64, n api.Node)) {
	x.t.Helper()
	if at == 0 {
		return
	}
	n := x.node(at)
	do(at, n)
	if !n.Leaf {
		for _, child := range n.Vals {
			x.each(child, do)
		}
	}
}

// blocks: those of a tree's nodes.
func (x *stand) blocks(root uint64) map[uint64]bool {
	x.t.Helper()
	all := map[uint64]bool{}
	x.each(root, func(at uint64, n api.Node) { all[at] = true })
	return all
}

// edge: those of its left edge.
func (x *stand) edge(root uint64) map[uint64]bool {
	x.t.Helper()
	all := map[uint64]bool{}
	for at := root; at != 0; {
		all[at] = true
		n := x.node(at)
		at = 0
		if !n.Leaf {
			at = n.Vals[0]
		}
	}
	return all
}

// high: how many nodes of a tree stand one beneath the other.
func (x *stand) high(root uint64) int { return len(x.edge(root)) }

// pointed: what the chapter's words make of Reach: each root as often as it stands there, each node of their trees once.
func (x *stand) pointed(roots ...uint64) []int {
	x.t.Helper()
	want := make([]int, len(x.r.Counts()))
	nodes := map[uint64]bool{}
	for _, root := range roots {
		if root != 0 {
			want[root]++
			maps.Copy(nodes, x.blocks(root))
		}
	}
	for at := range nodes {
		for _, val := range x.node(at).Vals {
			want[val]++
		}
	}
	return want
}

// counts: how often each block is counted, but for what is kept back.
func (x *stand) counts() []int {
	var all []int
	for at, count := range x.r.Counts() {
		if at < back {
			count--
		}
		all = append(all, int(count))
	}
	return all
}

// counted: that each block is counted as often as these roots and their trees' nodes point to it, and that Reach tells that.
func (x *stand) counted(roots ...uint64) {
	x.t.Helper()
	got, e := share.Reach(x.s, x.r, roots)
	want := x.pointed(roots...)
	if e != api.OK || !slices.Equal(got, want) {
		x.t.Fatalf("Reach of %v =\n%v, %d, want\n%v", roots, got, e, want)
	}
	if all := x.counts(); !slices.Equal(all, want) {
		x.t.Fatalf("with the roots %v the counts are\n%v, and pointed to are\n%v", roots, all, want)
	}
}

// stays: that what is done changes nothing that is seen: no count, and no block's bytes, as nothing is dirty then, nor in flight.
func (x *stand) stays(what string, do func()) {
	x.t.Helper()
	x.ok("Flush", x.c.Flush())
	counts, flight := x.seen(), x.d.Flight()
	do()
	if x.seen() != counts || len(x.c.Dirty()) > 0 || x.d.Flight() != flight {
		x.t.Fatalf("%s has changed something", what)
	}
}

// seen: how often each block is counted, whether it is fresh, and how many are free.
func (x *stand) seen() string {
	all := x.r.Counts()
	for at := range all {
		if x.r.Fresh(at) {
			all = append(all, byte(at), byte(at>>8))
		}
	}
	return string(append(all, byte(x.r.Free()), byte(x.r.Free()>>8)))
}

// bytes: those of all blocks.
func (x *stand) bytes() string {
	x.t.Helper()
	var all []byte
	for at := range x.r.Counts() {
		b, e := x.c.Get(at)
		x.ok("Get", e)
		all = append(all, b...)
	}
	return string(all)
}

// broken: what stands at a block is no node any more: it tells that error.
func (x *stand) broken(at uint64, want api.Errno) {
	x.t.Helper()
	form, _ := stamp.Seal([]byte{1}, int(at), api.KindNode) // cut off behind its kind: noughts are no keys
	switch want {
	case api.ErrSum:
		form[9] ^= 1
	case api.ErrPlace:
		form, _ = stamp.Seal(nil, int(at)+1, api.KindNode)
	case api.ErrKind:
		form, _ = stamp.Seal(nil, int(at), api.KindEntry)
	}
	x.ok("Put", x.c.Put(int(at), form))
	if _, e := x.s.Load(at); e != want {
		x.t.Fatalf("Load tells %d, want %d", e, want)
	}
}
