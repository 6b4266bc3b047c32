package tree_test

import (
	"math/rand/v2"
	"slices"
	"testing"

	"cistern/api"
	"cistern/cache"
	"cistern/disk"
	"cistern/node"
	"cistern/refs"
	"cistern/stamp"
	"cistern/tree"
)

const (
	greatest = 1<<64 - 1
	last     = 1<<31 - 1 // above it no block is asked for
)

// numbers: the same pseudo-random numbers in each run.
func numbers(seed uint64) *rand.Rand { return rand.New(rand.NewPCG(11, seed)) }

// couple: a pair of a node.
type couple struct{ key, val uint64 }

// couples: those of a node.
func couples(n api.Node) []couple {
	var l []couple
	for i, key := range n.Keys {
		l = append(l, couple{key, n.Vals[i]})
	}
	return l
}

// of: the node of these couples.
func of(leaf bool, l []couple) api.Node {
	n := api.Node{Leaf: leaf}
	for _, c := range l {
		n.Keys = append(n.Keys, c.key)
		n.Vals = append(n.Vals, c.val)
	}
	return n
}

// plain: what the chapter's words make of Refs, and of nodes by their blocks. What fails ends by a panic of its error.
type plain struct {
	r     *refs.Refs
	nodes map[uint64]api.Node
	old   uint64
	there bool
}

// ok: ends by the error, if it is one.
func ok(e api.Errno) {
	if e != api.OK {
		panic(e)
	}
}

// caught: the error by which what is done ends.
func caught(do func()) (e api.Errno) {
	defer func() {
		if x := recover(); x != nil {
			e = x.(api.Errno)
		}
	}()
	do()
	return api.OK
}

func (p *plain) create(n api.Node) uint64 {
	at, e := p.r.Alloc()
	ok(e)
	p.nodes[uint64(at)] = n
	return uint64(at)
}

func (p *plain) dec(at uint64) {
	_, e := p.r.Dec(int(at))
	ok(e)
}

func (p *plain) shadow(at uint64) uint64 {
	n := p.nodes[at]
	if p.r.Fresh(int(at)) && p.r.Count(int(at)) == 1 {
		return at
	}
	to, e := p.r.Alloc()
	ok(e)
	if p.r.Count(int(at)) > 1 {
		for _, val := range n.Vals {
			ok(p.r.Inc(int(val)))
		}
	}
	p.dec(at)
	p.nodes[uint64(to)] = n
	return uint64(to)
}

// beneath: the place of the child that a key belongs to.
func beneath(l []couple, key uint64) int {
	at := 0
	for i, c := range l {
		if c.key <= key {
			at = i
		}
	}
	return at
}

// insert: the block that stands in the place of at then, and the one behind it, if it was split.
func (p *plain) insert(at, key, val uint64) (to, behind uint64) {
	to = p.shadow(at)
	leaf, l := p.nodes[to].Leaf, couples(p.nodes[to])
	if leaf {
		i := slices.IndexFunc(l, func(c couple) bool { return c.key >= key })
		switch {
		case i < 0:
			l = append(l, couple{key, val})
		case l[i].key == key:
			p.old, p.there = l[i].val, true
			l[i].val = val
		default:
			l = slices.Insert(l, i, couple{key, val})
		}
	} else {
		if key < l[0].key {
			l[0].key = key
		}
		i := beneath(l, key)
		child, second := p.insert(l[i].val, key, val)
		l[i].val = child
		if second != 0 {
			l = slices.Insert(l, i+1, couple{p.nodes[second].Keys[0], second})
		}
	}
	if len(l) > api.MaxKeys {
		half := (len(l) + 1) / 2
		behind = p.create(of(leaf, l[half:]))
		l = l[:half]
	}
	p.nodes[to] = of(leaf, l)
	return to, behind
}

// remove: the block that stands in the place of at then.
func (p *plain) remove(at, key uint64) uint64 {
	to := p.shadow(at)
	leaf, l := p.nodes[to].Leaf, couples(p.nodes[to])
	if leaf {
		i := slices.IndexFunc(l, func(c couple) bool { return c.key == key })
		p.old, p.there = l[i].val, true
		p.nodes[to] = of(leaf, slices.Delete(l, i, i+1))
		return to
	}
	i := beneath(l, key)
	child := p.remove(l[i].val, key)
	l[i] = couple{p.nodes[child].Keys[0], child}
	if len(p.nodes[child].Keys) < tree.MinKeys {
		l = p.mend(l, i)
	}
	p.nodes[to] = of(leaf, l)
	return to
}

// mend: the couples of an inner node whose child at i has too few pairs.
func (p *plain) mend(l []couple, i int) []couple {
	other, first := i+1, i
	if other == len(l) {
		other, first = i-1, i-1
	}
	l[other].val = p.shadow(l[other].val)
	one, two := l[first].val, l[first+1].val
	leaf := p.nodes[one].Leaf
	both := slices.Concat(couples(p.nodes[one]), couples(p.nodes[two]))
	if len(both) <= api.MaxKeys {
		p.nodes[one] = of(leaf, both)
		p.dec(two)
		return slices.Delete(l, first+1, first+2)
	}
	half := (len(both) + 1) / 2
	p.nodes[one], p.nodes[two] = of(leaf, both[:half]), of(leaf, both[half:])
	l[first+1].key = both[half].key
	return l
}

// Insert: the root then.
func (p *plain) Insert(root, key, val uint64) uint64 {
	p.old, p.there = 0, false
	if root == 0 {
		return p.create(of(true, []couple{{key, val}}))
	}
	to, behind := p.insert(root, key, val)
	if behind == 0 {
		return to
	}
	return p.create(of(false, []couple{{p.nodes[to].Keys[0], to}, {p.nodes[behind].Keys[0], behind}}))
}

// Remove: the root then. The key is there, or no block is touched.
func (p *plain) Remove(root, key uint64) uint64 {
	p.old, p.there = 0, false
	if !p.has(root, key) {
		return root
	}
	to := p.remove(root, key)
	n := p.nodes[to]
	if n.Leaf && len(n.Keys) == 0 {
		p.dec(to)
		return 0
	}
	if !n.Leaf && len(n.Keys) == 1 {
		p.dec(to)
		return n.Vals[0]
	}
	return to
}

func (p *plain) has(root, key uint64) bool {
	_, there := p.pairs(root)[key]
	return there
}

// pairs: what a tree has.
func (p *plain) pairs(root uint64) map[uint64]uint64 {
	all := map[uint64]uint64{}
	p.gather(root, all)
	return all
}

func (p *plain) gather(at uint64, all map[uint64]uint64) {
	for _, c := range couples(p.nodes[at]) {
		if p.nodes[at].Leaf {
			all[c.key] = c.val
		} else {
			p.gather(c.val, all)
		}
	}
}

// stand: a shelf, what it stands on, and what it is held against, on Refs of its own.
type stand struct {
	t *testing.T
	d *disk.Disk
	r *refs.Refs
	c *cache.Cache
	s *tree.Shelf
	p *plain
}

// kept: counts of so many blocks; the first ones are kept back, as those of a pool are.
func kept(blocks, back int) []byte {
	counts := make([]byte, blocks)
	for i := range back {
		counts[i] = 1
	}
	return counts
}

// on: a stand on these.
func on(t *testing.T, d *disk.Disk, r *refs.Refs, room int, nodes map[uint64]api.Node) *stand {
	t.Helper()
	c, e := cache.New(d, room)
	if e != api.OK {
		t.Fatal("cache.New:", e)
	}
	s := tree.New(r, c)
	if s == nil {
		t.Fatal("New = nil")
	}
	return &stand{t, d, r, c, s, &plain{r: r.Copy(), nodes: nodes}}
}

// anew: a stand of so many blocks, of which the first ones are kept back.
func anew(t *testing.T, blocks, back, room int) *stand {
	t.Helper()
	d, e := disk.New(blocks)
	if e != api.OK {
		t.Fatal("disk.New:", e)
	}
	r, e := refs.New(kept(blocks, back))
	if e != api.OK {
		t.Fatal("refs.New:", e)
	}
	return on(t, d, r, room, map[uint64]api.Node{})
}

// copied: another stand that is the same, and lives apart. What is held is written to the disk ahead of that.
func (x *stand) copied() *stand {
	x.t.Helper()
	if e := x.c.Flush(); e != api.OK {
		x.t.Fatal("Flush:", e)
	}
	nodes := map[uint64]api.Node{}
	for at, n := range x.p.nodes {
		nodes[at] = n
	}
	return on(x.t, x.d.Copy(), x.r.Copy(), 64, nodes)
}

// both: the same is done to the Refs, and to those of plain.
func (x *stand) both(what string, do func(r *refs.Refs) (int, api.Errno)) uint64 {
	x.t.Helper()
	at, e := do(x.r)
	if other, f := do(x.p.r); at != other || e != f || e != api.OK {
		x.t.Fatalf("%s: %d, %d, and of plain %d, %d", what, at, e, other, f)
	}
	return uint64(at)
}

// data: a block is handed out for something that is no node.
func (x *stand) data() uint64 {
	x.t.Helper()
	at := x.both("Alloc", (*refs.Refs).Alloc)
	delete(x.p.nodes, at)
	return at
}

// inc, dec, commit: of the Refs.
func (x *stand) inc(at uint64) {
	x.t.Helper()
	x.both("Inc", func(r *refs.Refs) (int, api.Errno) { return 0, r.Inc(int(at)) })
}

func (x *stand) dec(at uint64) {
	x.t.Helper()
	x.both("Dec", func(r *refs.Refs) (int, api.Errno) {
		_, e := r.Dec(int(at))
		return 0, e
	})
}

func (x *stand) commit() {
	x.t.Helper()
	x.both("Commit", func(r *refs.Refs) (int, api.Errno) { return 0, r.Commit() })
}

// create: a node in a block of its own.
func (x *stand) create(n api.Node) uint64 {
	x.t.Helper()
	at, e := x.s.Make(n)
	if want := x.p.create(n); e != api.OK || at != want {
		x.t.Fatalf("Make(%v) = %d, %d, want %d", n, at, e, want)
	}
	return at
}

// insert, remove: that the call tells what plain does, and does it; the root then is told. Where plain ends by an error, the call does, and nothing more is asked of this stand.
func (x *stand) insert(root, key, val uint64) (uint64, api.Errno) {
	x.t.Helper()
	var want uint64
	e := caught(func() { want = x.p.Insert(root, key, val) })
	got, old, there, f := tree.Insert(x.s, root, key, val)
	return got, x.told("Insert", key, want, e, got, old, there, f)
}

func (x *stand) remove(root, key uint64) (uint64, api.Errno) {
	x.t.Helper()
	var want uint64
	e := caught(func() { want = x.p.Remove(root, key) })
	got, old, there, f := tree.Remove(x.s, root, key)
	return got, x.told("Remove", key, want, e, got, old, there, f)
}

func (x *stand) told(what string, key, want uint64, e api.Errno, got, old uint64, there bool, f api.Errno) api.Errno {
	x.t.Helper()
	if e != api.OK {
		if f != e || got != 0 || old != 0 || there {
			x.t.Fatalf("%s of %d = %d, %d, %t, %d, want the error %d", what, key, got, old, there, f, e)
		}
		return e
	}
	if f != api.OK || got != want || old != x.p.old || there != x.p.there {
		x.t.Fatalf("%s of %d = %d, %d, %t, %d, want %d, %d, %t", what, key, got, old, there, f, want, x.p.old, x.p.there)
	}
	x.same()
	return api.OK
}

// same: that each block is counted, and fresh, as plain has it, and each node is what plain has.
func (x *stand) same() {
	x.t.Helper()
	counts, want := x.r.Counts(), x.p.r.Counts()
	if !slices.Equal(counts, want) {
		x.t.Fatalf("the counts are\n%v, want\n%v", counts, want)
	}
	for at := range counts {
		if x.r.Fresh(at) != x.p.r.Fresh(at) {
			x.t.Fatalf("Fresh of %d = %t", at, x.r.Fresh(at))
		}
	}
	if x.r.Free() != x.p.r.Free() {
		x.t.Fatalf("%d blocks are free, want %d", x.r.Free(), x.p.r.Free())
	}
	for at, n := range x.p.nodes {
		if counts[at] > 0 {
			x.holds(at, n)
		}
	}
}

// sealed: the blocks that nodes are, by their places and forms: a block's sum takes long.
var sealed = map[place][]byte{}

type place struct {
	at   uint64
	form string
}

// block: the block that a node is at a place.
func block(at uint64, n api.Node) []byte {
	form, _ := node.Put(n)
	here := place{at, string(form)}
	if sealed[here] == nil {
		sealed[here], _ = stamp.Seal(form, int(at), api.KindNode)
	}
	return sealed[here]
}

// holds: that a block has just that node's bytes.
func (x *stand) holds(at uint64, n api.Node) {
	x.t.Helper()
	if b, e := x.c.Get(int(at)); e != api.OK || string(b) != string(block(at, n)) {
		got, e := x.s.Load(at)
		x.t.Fatalf("at %d stands %v, %d (%x), want %v", at, got, e, b, n)
	}
}

// has: that Lookup tells these pairs of a tree, and nothing of keys beside them, and of others.
func (x *stand) has(root uint64, pairs map[uint64]uint64, keys ...uint64) {
	x.t.Helper()
	for _, key := range keys {
		want, there := pairs[key]
		if got, ok, e := tree.Lookup(x.s, root, key); got != want || ok != there || e != api.OK {
			x.t.Fatalf("Lookup of %d = %d, %t, %d, want %d, %t", key, got, ok, e, want, there)
		}
	}
}

// hasAll: likewise of all keys that a tree has, what stands beside them, and the ends.
func (x *stand) hasAll(root uint64, pairs map[uint64]uint64) {
	x.t.Helper()
	for key := range pairs {
		x.has(root, pairs, key-1, key, key+1)
	}
	x.has(root, pairs, 0, 1, 1<<31, 1<<63, greatest)
}

// right: that a tree is right, as the chapter says it. What plain has is looked at; same tells that it stands on the shelf.
func (x *stand) right(root uint64) {
	x.t.Helper()
	if root == 0 {
		return
	}
	deep := 0
	for at := root; !x.p.nodes[at].Leaf && deep < 12; deep++ {
		at = x.p.nodes[at].Vals[0]
	}
	if deep == 12 {
		x.t.Fatal("more than 12 nodes stand one beneath the other")
	}
	x.rightAt(root, deep, true)
}

// rightAt: that what stands at a block is right, with leaves so far beneath it.
func (x *stand) rightAt(at uint64, deep int, root bool) {
	x.t.Helper()
	n, there := x.p.nodes[at]
	if !there || !node.May(n) || n.Leaf != (deep == 0) {
		x.t.Fatalf("at %d stands %v, %d above the leaves", at, n, deep)
	}
	least := tree.MinKeys
	if root {
		least = 2
		if n.Leaf {
			least = 1
		}
	}
	if len(n.Keys) < least {
		x.t.Fatalf("at %d stands %v, which has too few keys", at, n)
	}
	if n.Leaf {
		return
	}
	for i, child := range n.Vals {
		x.rightAt(child, deep-1, false)
		c := x.p.nodes[child].Keys
		if c[0] != n.Keys[i] || i+1 < len(n.Keys) && c[len(c)-1] >= n.Keys[i+1] {
			x.t.Fatalf("beneath the key %d of %v stand the keys %v", n.Keys[i], n, c)
		}
	}
}

// counted: that each block is counted as often as it is kept back, held as a root, or pointed to by the nodes of these roots' trees.
func (x *stand) counted(back int, roots []uint64) {
	x.t.Helper()
	want := make([]byte, len(x.r.Counts()))
	for at := range back {
		want[at]++
	}
	seen := map[uint64]bool{}
	var look func(at uint64)
	look = func(at uint64) {
		want[at]++
		if seen[at] {
			return
		}
		seen[at] = true
		n := x.p.nodes[at]
		for _, val := range n.Vals {
			if n.Leaf {
				want[val]++
			} else {
				look(val)
			}
		}
	}
	for _, root := range roots {
		if root != 0 {
			look(root)
		}
	}
	if got := x.r.Counts(); !slices.Equal(got, want) {
		x.t.Fatalf("the counts are\n%v, and pointed to are\n%v", got, want)
	}
}
