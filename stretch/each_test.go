package stretch_test

import (
	"slices"
	"testing"

	"cistern/api"
	"cistern/stretch"
	"cistern/tree"
)

// each: that Each tells what it should.
func (x *stand) each(root, from, to uint64, most int, want []stretch.Pair) {
	x.t.Helper()
	got, e := stretch.Each(x.s, root, from, to, most)
	if e != api.OK || !slices.Equal(got, want) {
		x.t.Fatalf("Each(%d, %d, %d) = %v, %d, want %v", from, to, most, got, e, want)
	}
}

// eachError: that Each tells that error, and no pair.
func (x *stand) eachError(root, from, to uint64, most int, want api.Errno) {
	x.t.Helper()
	if got, e := stretch.Each(x.s, root, from, to, most); e != want || len(got) > 0 {
		x.t.Fatalf("Each(%d, %d, %d) = %v, %d, want the error %d", from, to, most, got, e, want)
	}
}

// told: that a call told a pair, and true; or none, and false, if there is no such pair.
func (x *stand) told(what string, want []stretch.Pair, p stretch.Pair, there bool, e api.Errno) {
	x.t.Helper()
	is := stretch.Pair{}
	if len(want) > 0 {
		is = want[0]
	}
	if e != api.OK || p != is || there != (len(want) > 0) {
		x.t.Fatalf("%s = %v, %t, %d, want %v", what, p, there, e, want)
	}
}

// has: that First, Last and Count tell what a tree with just these pairs has, and Each tells them all but one of the greatest key.
func (x *stand) has(root uint64, pairs []stretch.Pair) {
	x.t.Helper()
	p, there, e := stretch.First(x.s, root)
	x.told("First", pairs, p, there, e)
	p, there, e = stretch.Last(x.s, root)
	x.told("Last", pairs[max(len(pairs)-1, 0):], p, there, e)
	if n, e := stretch.Count(x.s, root); n != len(pairs) || e != api.OK {
		x.t.Fatalf("Count = %d, %d, want %d", n, e, len(pairs))
	}
	x.each(root, 0, greatest, maxInt, between(pairs, 0, greatest))
}

// keyings: the ways to give so many pairs their keys.
func keyings(n int) []func(i int) uint64 {
	return []func(i int) uint64{tens, dense, wide(max(n, 1))}
}

// overAll: what is asked of each shape of a tree, with each way of keys.
func overAll(t *testing.T, ask func(x *stand, root uint64, pairs []stretch.Pair)) {
	t.Helper()
	for _, fills := range shapes() {
		for _, key := range keyings(fills.size()) {
			blocks := 3*fills.size() + 16 // with room for copies of all nodes
			x := anew(t, blocks, blocks)
			root := x.built(fills, key)
			x.right(root)
			pairs := x.listed(root)
			if len(pairs) != fills.size() {
				t.Fatalf("a tree of %v has %d pairs", fills, len(pairs))
			}
			ask(x, root, pairs)
		}
	}
}

// some: of these so many, from all over them.
func some(l []uint64, n int) []uint64 {
	if len(l) <= n {
		return l
	}
	var few []uint64
	for i := range n {
		few = append(few, l[i*(len(l)-1)/(n-1)])
	}
	return few
}

// P12.1: each stretch of each tree, with a most of 0, 1, 2, just as many as there are, one less, one more, and the greatest.
func TestEach(t *testing.T) {
	overAll(t, func(x *stand, root uint64, pairs []stretch.Pair) {
		limits := ends(pairs)
		if len(pairs) > 16 {
			limits = some(limits, 30)
		}
		for _, from := range limits {
			for _, to := range limits {
				want := between(pairs, from, to)
				n := len(want)
				for _, most := range []int{0, 1, 2, 9, n - 1, n, n + 1, maxInt} {
					if most >= 0 {
						x.each(root, from, to, most, want[:min(most, n)])
					}
				}
			}
		}
	})
}

// P12.1: every two neighbouring keys of a greater tree, and each number of pairs.
func TestEachOfMany(t *testing.T) {
	x := anew(t, 512, 3)
	root := x.built(shape{{4, 8, 4, 6}, {4, 4, 4, 4}, {8, 8, 8, 8, 8, 8, 8, 8}}, tens)
	pairs := x.listed(root)
	for i, p := range pairs {
		for _, to := range []uint64{p.Key - 1, p.Key, p.Key + 1, p.Key + 10, p.Key + 11} {
			x.each(root, p.Key, to, maxInt, between(pairs, p.Key, to))
			x.each(root, p.Key-5, to, maxInt, between(pairs, p.Key-5, to))
		}
		x.each(root, 0, greatest, i, pairs[:i])
		x.each(root, p.Key, greatest, 3, pairs[i:min(i+3, len(pairs))])
	}
}

// grouped: nodes above these, of four each, and of the last one's more; those of one root at last.
func (x *stand) grouped(pairs []stretch.Pair) uint64 {
	x.t.Helper()
	for len(pairs) > api.MaxKeys {
		var above []stretch.Pair
		for len(pairs) >= 2*tree.MinKeys {
			above = append(above, x.above(pairs[:tree.MinKeys]))
			pairs = pairs[tree.MinKeys:]
		}
		pairs = append(above, x.above(pairs))
	}
	return x.above(pairs).Val
}

// P12.1, P12.2: a tree of as many nodes as a disk has room for.
func TestAsManyNodesAsMayBe(t *testing.T) {
	x := anew(t, api.MaxBlocks, 64)
	var leaves []stretch.Pair
	for i := range 767 {
		var pairs []stretch.Pair
		for j := range tree.MinKeys {
			pairs = append(pairs, stretch.Pair{Key: tens(i*tree.MinKeys + j), Val: 1})
		}
		leaves = append(leaves, stretch.Pair{Key: pairs[0].Key, Val: x.create(true, pairs...)})
	}
	root := x.grouped(leaves)
	if x.r.Free() > 3 {
		t.Fatalf("%d blocks are free", x.r.Free())
	}
	x.right(root)
	pairs := x.listed(root)
	x.has(root, pairs)
	x.each(root, 5000, 25000, maxInt, between(pairs, 5000, 25000))
}

// P12.1: ErrArg, if most is below 0, whatever tree it is, and whatever stretch.
func TestEachBelowNought(t *testing.T) {
	x := anew(t, 64, 8)
	for _, root := range []uint64{0, x.built(shape{{4, 4}}, tens), 1, 63, 64, 1 << 31, greatest} {
		for _, most := range []int{-1, -2, -maxInt, -maxInt - 1} {
			x.eachError(root, 0, greatest, most, api.ErrArg)
			x.eachError(root, 10, 10, most, api.ErrArg)
			x.eachError(root, 50, 10, most, api.ErrArg)
		}
	}
}

// P12.2: First, Last and Count of each tree; Next of each key, and of those beside it.
func TestFirstLastNextCount(t *testing.T) {
	overAll(t, func(x *stand, root uint64, pairs []stretch.Pair) {
		x.has(root, pairs)
		for _, key := range ends(pairs) {
			i := slices.IndexFunc(pairs, func(p stretch.Pair) bool { return p.Key >= key })
			var want []stretch.Pair
			if i >= 0 {
				want = pairs[i:]
			}
			p, there, e := stretch.Next(x.s, root, key)
			x.told("Next", want, p, there, e)
		}
	})
}

// P12.1, P12.2: the empty tree has nothing, and nothing is asked of the disk for it.
func TestEmptyTree(t *testing.T) {
	x := anew(t, 16, 4)
	for _, off := range []bool{false, true} {
		if off {
			x.d.Fuse(1)
			x.d.Barrier()
		}
		x.has(0, nil)
		for _, key := range []uint64{0, 1, 1 << 63, greatest} {
			p, there, e := stretch.Next(x.s, 0, key)
			x.told("Next", nil, p, there, e)
			for _, to := range []uint64{0, 1, 1 << 63, greatest} {
				x.each(0, key, to, 5, nil)
				if root, n, e := stretch.Clear(x.s, x.r, 0, key, to); root != 0 || n != 0 || e != api.OK {
					t.Errorf("Clear(%d, %d) = %d, %d, %d", key, to, root, n, e)
				}
			}
		}
	}
}

// P12.1: the greatest key is below none: no stretch has it; Last, Next and Count tell it.
func TestGreatestKey(t *testing.T) {
	x := anew(t, 64, 8)
	for _, fills := range []shape{{{1}}, {{4, 4}}} {
		root := x.built(fills, func(i int) uint64 { return greatest - uint64(fills.size()-1-i) })
		pairs := x.listed(root)
		n := len(pairs) - 1
		x.each(root, 0, greatest, maxInt, pairs[:n])
		x.each(root, greatest, greatest, maxInt, nil)
		x.has(root, pairs)
		p, there, e := stretch.Next(x.s, root, greatest)
		x.told("Next", pairs[n:], p, there, e)
	}
}

// P12.4: stretches one behind the other tell what all of them tell as one.
func TestOneBehindTheOther(t *testing.T) {
	overAll(t, func(x *stand, root uint64, pairs []stretch.Pair) {
		limits := ends(pairs)
		g := numbers(uint64(len(limits)))
		for range 60 {
			cuts := []uint64{}
			for range 2 + g.IntN(5) {
				cuts = append(cuts, limits[g.IntN(len(limits))])
			}
			slices.Sort(cuts)
			var parts []stretch.Pair
			for i, from := range cuts[:len(cuts)-1] {
				part, e := stretch.Each(x.s, root, from, cuts[i+1], len(pairs))
				if e != api.OK {
					t.Fatal("Each:", e)
				}
				parts = append(parts, part...)
			}
			x.each(root, cuts[0], cuts[len(cuts)-1], len(pairs), parts)
		}
	})
}

// P12.1, P12.2: with Each's last key and Next, a tree is gone through a few pairs at a time.
func TestGoneThrough(t *testing.T) {
	overAll(t, func(x *stand, root uint64, pairs []stretch.Pair) {
		var parts []stretch.Pair
		for p, there, e := stretch.First(x.s, root); there; p, there, e = stretch.Next(x.s, root, p.Key+1) {
			if e != api.OK {
				t.Fatal("Next:", e)
			}
			parts = append(parts, p)
			if p.Key == greatest {
				break
			}
		}
		if !slices.Equal(parts, pairs) {
			t.Fatalf("gone through are %v, want %v", parts, pairs)
		}
	})
}

// R2, R3: what only asks changes nothing, and what is told is new memory.
func TestAskingChangesNothing(t *testing.T) {
	x := anew(t, 128, 128)
	root := x.built(shape{{4, 8, 4}, {4, 4, 4, 4}}, tens)
	pairs := x.listed(root)
	ahead, dirty := x.state(), x.c.Dirty()
	first, _ := stretch.Each(x.s, root, 0, 300, maxInt)
	second, _ := stretch.Each(x.s, root, 0, 300, maxInt)
	clear(first)
	if !slices.Equal(second, between(pairs, 0, 300)) {
		t.Errorf("what one call told is changed by what another told: %v", second)
	}
	x.has(root, pairs)
	stretch.Next(x.s, root, 77)
	if x.state() != ahead || !slices.Equal(x.c.Dirty(), dirty) {
		t.Error("something has changed")
	}
}

// twos: the tree of the chapter's examples.
func twos(t *testing.T) (*stand, uint64) {
	t.Helper()
	x := anew(t, 64, 8)
	return x, x.built(shape{{5, 5}}, func(i int) uint64 { return uint64(i+1) * 2 })
}

// The chapter's examples.
func TestExamples(t *testing.T) {
	x, root := twos(t)
	pairs := x.listed(root)
	x.each(root, 4, 9, 10, pairs[1:4])
	x.each(root, 4, 9, 1, pairs[1:2])
	x.each(root, 9, 4, 10, nil)
	p, there, e := stretch.First(x.s, root)
	x.told("First", pairs[:1], p, there, e)
	p, there, e = stretch.Last(x.s, root)
	x.told("Last", pairs[9:], p, there, e)
	p, there, e = stretch.Next(x.s, root, 7)
	x.told("Next(7)", pairs[3:4], p, there, e)
	p, there, e = stretch.Next(x.s, root, 21)
	x.told("Next(21)", nil, p, there, e)
	if n, e := stretch.Count(x.s, root); n != 10 || e != api.OK {
		t.Errorf("Count = %d, %d", n, e)
	}
	root, n, e := stretch.Clear(x.s, x.r, root, 4, 19)
	if n != 8 || e != api.OK {
		t.Errorf("Clear = %d, %d, %d", root, n, e)
	}
	x.has(root, []stretch.Pair{pairs[0], pairs[9]})
	if n, e := stretch.Count(x.s, root); n != 2 || e != api.OK {
		t.Errorf("Count = %d, %d", n, e)
	}
	if pairs[0].Key != 2 || pairs[9].Key != 20 {
		t.Errorf("the tree is %v", pairs)
	}
}
