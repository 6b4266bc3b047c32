package share_test

import (
	"cmp"
	"maps"
	"slices"
	"testing"

	"cistern/api"
	"cistern/share"
)

// sorted: the keys of a map.
func sorted[K cmp.Ordered, V any](m map[K]V) []K { return slices.Sorted(maps.Keys(m)) }

func copyOf(m map[uint64]uint64) map[uint64]uint64 { return maps.Clone(m) }

// unlike: the keys that one of both has and the other has not, or has with another value.
func unlike(a, b map[uint64]uint64) []uint64 {
	all := map[uint64]bool{}
	for key, val := range a {
		if other, there := b[key]; !there || other != val {
			all[key] = true
		}
	}
	for key := range b {
		if _, there := a[key]; !there {
			all[key] = true
		}
	}
	return sorted(all)
}

// common: the nodes of both trees that stand on the left edge of neither.
func (x *stand) common(a, b uint64) []uint64 {
	x.t.Helper()
	one, two := x.blocks(a), x.blocks(b)
	left, right := x.edge(a), x.edge(b)
	var l []uint64
	for _, at := range sorted(one) {
		if two[at] && !left[at] && !right[at] {
			l = append(l, at)
		}
	}
	return l
}

// diff: that Diff of two trees, and of both the other way about, tells what sets their pairs apart, changes nothing, and asks nothing of a node that it should not load. How many of these there are is told.
func (x *stand) diff(a, b uint64) int {
	x.t.Helper()
	want := unlike(x.listed(a), x.listed(b))
	shared := x.common(a, b)
	x.differ(a, b, want)
	if len(shared) > 0 {
		y := x.copied(64)
		for _, at := range shared {
			y.broken(at, api.ErrSum)
		}
		y.differ(a, b, want)
	}
	return len(shared)
}

func (x *stand) differ(a, b uint64, want []uint64) {
	x.t.Helper()
	x.stays("Diff", func() {
		x.t.Helper()
		for _, y := range [][2]uint64{{a, b}, {b, a}} {
			if got, e := share.Diff(x.s, y[0], y[1]); e != api.OK || !slices.Equal(got, want) {
				x.t.Fatalf("Diff(%d, %d) = %v, %d, want %v", y[0], y[1], got, e, want)
			}
		}
		for _, root := range []uint64{a, b} {
			if got, e := share.Diff(x.s, root, root); e != api.OK || len(got) > 0 {
				x.t.Fatalf("Diff of %d and itself = %v, %d", root, got, e)
			}
		}
	})
}

// P13.3, P13.5: each tree and the empty one; trees of all shapes and heights that share nothing.
func TestDiffOfApart(t *testing.T) {
	x := anew(t, api.MaxBlocks, 64)
	var roots []uint64
	for _, fills := range shapes() {
		roots = append(roots, x.built(fills))
	}
	for _, a := range roots {
		for _, b := range roots {
			if shared := x.diff(a, b); a != b && shared > 0 {
				t.Fatal("trees that were built apart share nodes")
			}
		}
	}
}

// P13.3: trees that have the same pairs, and no node in common: nothing sets them apart, however high they are.
func TestDiffOfSamePairs(t *testing.T) {
	for _, fills := range [][2]shape{
		{{{8}}, {{4, 4}}}, {{{4, 4, 8}}, {{8, 4, 4}}}, {{{8, 8, 8, 8}}, {{4, 4, 4, 4}, {4, 4, 4, 4}}},
		{{{8, 8, 8, 8, 8, 8, 8, 8}}, {{4, 4, 4, 4, 4, 4, 4, 4}, {8, 8, 8, 8}}},
	} {
		x := anew(t, 256, 64)
		a := x.built(fills[0])
		pairs := x.listed(a)
		b := x.built(fills[1])
		x.each(b, func(at uint64, n api.Node) {
			if n.Leaf {
				var l []couple
				for _, key := range n.Keys {
					l = append(l, couple{key, pairs[key]})
				}
				x.save(at, true, l...)
			}
		})
		x.differ(a, b, nil)
	}
}

// P13.3: a pair set, put in or taken out anywhere in a tree that is held: that key, and no node beside the way there is loaded.
func TestDiffOfOneKey(t *testing.T) {
	shared := 0
	overAll(t, func(x *stand, root uint64) {
		if root == 0 {
			return
		}
		keys := []uint64{0, 1, greatest - 1, greatest}
		for key := range x.listed(root) {
			keys = append(keys, key, key+1)
		}
		for i, key := range sorted(setOf(keys)) {
			y := x.copied([]int{64, 2}[i%2])
			y.clone(root)
			to := y.insert(root, key, y.data())
			shared += y.diff(root, to)
			y.differ(root, to, []uint64{key})
			y.clone(to)
			less := y.remove(to, key)
			shared += y.diff(to, less) + y.diff(root, less)
			y.differ(to, less, []uint64{key})
			if to == root || less == to {
				t.Fatal("the root has not changed")
			}
			y.counted(root, to, less)
		}
	})
	if shared < 1000 {
		t.Errorf("only %d nodes were shared", shared)
	}
}

func setOf(keys []uint64) map[uint64]bool {
	all := map[uint64]bool{}
	for _, key := range keys {
		all[key] = true
	}
	return all
}

// P13.3: many keys set, put in and taken out, at one end, at both, all over.
func TestDiffOfManyKeys(t *testing.T) {
	shared := 0
	for seed := range uint64(200) {
		g := numbers(seed)
		x := anew(t, 500, 64)
		root := x.built(shapes()[g.IntN(len(shapes()))])
		to := root
		x.clone(root)
		from, wide := g.Uint64N(700), 1+g.Uint64N(300)
		for range 1 + g.IntN(30) {
			key := from + g.Uint64N(wide)
			if g.IntN(2) == 0 {
				key -= key % 10
			}
			if g.IntN(3) == 0 {
				to = x.remove(to, key)
			} else {
				to = x.insert(to, key, x.data())
			}
		}
		shared += x.diff(root, to)
		x.counted(root, to)
	}
	if shared < 500 {
		t.Errorf("only %d nodes were shared", shared)
	}
}

// P13.3: a tree that has grown higher, or lower, level by level, at its end or at its beginning, against what it was: what both have is loaded at neither height.
func TestDiffOfHeights(t *testing.T) {
	for name, next := range map[string]func(i uint64) uint64{
		"rising":  func(i uint64) uint64 { return 1000 + i },
		"falling": func(i uint64) uint64 { return 1000 - i },
		"both":    func(i uint64) uint64 { return 1000 + i*(i%2) - i*(1-i%2) },
	} {
		x := anew(t, api.MaxBlocks, 64)
		vals := []uint64{x.data(), x.data(), x.data()}
		root, at := uint64(0), []uint64{0}
		heights := map[[2]int]int{}
		for i := range uint64(150) {
			x.inc(vals[i%3])
			root = x.insert(root, next(i), vals[i%3])
			if i%7 == 0 {
				x.clone(root)
				at = append(at, root)
			}
		}
		for i, a := range at {
			for _, b := range at[i:] {
				heights[[2]int{x.high(a), x.high(b)}] += x.diff(a, b)
			}
		}
		if len(heights) < 8 || name == "rising" && (heights[[2]int{2, 3}] == 0 || heights[[2]int{3, 3}] == 0) {
			t.Errorf("%s: nodes shared by heights: %v", name, heights)
		}
		low := x.high(root)
		for i := range uint64(150) {
			root = x.remove(root, next(i))
			if i%7 == 0 && root != 0 {
				x.clone(root)
				for _, a := range at {
					x.diff(a, root)
				}
			}
		}
		if root != 0 || low < 3 {
			t.Errorf("%s: the root is %d at last, %d high at first", name, root, low)
		}
	}
}

// P13.3: a root that is another tree's child, on its left edge and beside it, or stands beneath that: what it has is common.
func TestDiffOfPart(t *testing.T) {
	for _, fills := range shapes() {
		x := anew(t, 192, 64)
		root := x.built(fills)
		for _, part := range sorted(x.blocks(root)) {
			x.diff(root, part)
			for _, other := range sorted(x.blocks(root)) {
				x.diff(part, other)
			}
		}
	}
}

// P13.3: a child of one tree with other keys set in it is the root of another one; the leaves that both have are not loaded.
func TestDiffOfChangedPart(t *testing.T) {
	x := anew(t, 192, 64)
	root := x.built(shape{{4, 4, 4, 4}, {4, 4, 4, 4, 4}, {4, 4, 4, 4}})
	for _, part := range x.node(root).Vals {
		for key := range x.listed(part) {
			y := x.copied(64)
			y.clone(part)
			to := y.insert(part, key, y.data())
			if y.diff(root, to) < 2 || y.diff(part, to) < 2 {
				t.Fatal("too few nodes are shared")
			}
		}
	}
}

// P13.3: keys at both ends of all numbers.
func TestDiffAtTheEnds(t *testing.T) {
	x := anew(t, 64, 8)
	one, two, three := x.data(), x.data(), x.data()
	a := x.create(true, couple{0, one}, couple{greatest, two}).val
	b := x.create(true, couple{0, one}, couple{greatest, three}).val
	c := x.create(true, couple{greatest, two}).val
	d := x.create(true, couple{0, two}).val
	x.differ(a, b, []uint64{greatest})
	x.differ(a, c, []uint64{0})
	x.differ(b, c, []uint64{0, greatest})
	x.differ(a, d, []uint64{0, greatest})
	x.differ(c, d, []uint64{0, greatest})
	x.differ(c, 0, []uint64{greatest})
	x.differ(0, d, []uint64{0})
	x.differ(0, 0, nil)
}

// The chapter's examples.
func TestExamples(t *testing.T) {
	x := anew(t, 64, 16)
	a := uint64(0)
	for key := uint64(1); key <= 30; key++ {
		a = x.insert(a, key, x.data())
	}
	x.clone(a)
	b := x.insert(a, 7, x.data())
	var all []uint64
	for key := uint64(1); key <= 30; key++ {
		all = append(all, key)
	}
	x.differ(a, b, []uint64{7})
	x.differ(a, 0, all)
	if x.diff(a, b) == 0 {
		t.Error("no node is shared beside the left edge")
	}
	got, e := share.Reach(x.s, x.r, []uint64{a, b})
	val, leaf := x.listed(a)[7], x.node(x.node(a).Vals[len(x.node(a).Vals)-1])
	last := x.node(a).Vals[len(x.node(a).Vals)-1]
	if e != api.OK || got[a] != 1 || got[val] != 1 || got[last] != 2 || !leaf.Leaf {
		t.Errorf("Reach = %v, %d", got, e)
	}
	x.drop(a)
	x.drop(b)
	x.commit()
	if x.r.Free() != 64-back {
		t.Errorf("%d blocks are free", x.r.Free())
	}
}
