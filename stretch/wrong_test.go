package stretch_test

import (
	"testing"

	"cistern/api"
	"cistern/cache"
	"cistern/refs"
	"cistern/stamp"
	"cistern/stretch"
	"cistern/tree"
)

// answer: what a call told beside its error.
type answer struct {
	nought bool
	e      api.Errno
}

// asked: what each call tells of a tree, a stretch and a most; Clear on a stand of its own.
func (x *stand) asked(root, from, to uint64, most int) map[string]answer {
	x.t.Helper()
	all := map[string]answer{}
	pairs, e := stretch.Each(x.s, root, from, to, most)
	all["Each"] = answer{len(pairs) == 0, e}
	p, there, e := stretch.First(x.s, root)
	all["First"] = answer{p == stretch.Pair{} && !there, e}
	p, there, e = stretch.Last(x.s, root)
	all["Last"] = answer{p == stretch.Pair{} && !there, e}
	p, there, e = stretch.Next(x.s, root, from)
	all["Next"] = answer{p == stretch.Pair{} && !there, e}
	n, e := stretch.Count(x.s, root)
	all["Count"] = answer{n == 0, e}
	got, n, e := stretch.Clear(x.s, x.r, root, from, to)
	all["Clear"] = answer{got == 0 && n == 0, e}
	return all
}

// refuse: that each call tells that error, and nought beside it.
func (x *stand) refuse(root, from, to uint64, most int, want api.Errno) {
	x.t.Helper()
	for call, a := range x.asked(root, from, to, most) {
		if !a.nought || a.e != want {
			x.t.Errorf("%s of %d = %v, want the error %d", call, root, a, want)
		}
	}
}

// ErrNil ahead of all: a shelf that is none, whatever else is asked for, the empty tree too.
func TestNoShelf(t *testing.T) {
	x := anew(t, 64, 8)
	root := x.built(shape{{4, 4}}, tens)
	ahead := x.state()
	for _, s := range []*tree.Shelf{nil, {}, tree.New(nil, x.c), tree.New(x.r, nil)} {
		y := *x
		y.s = s
		for _, at := range []uint64{root, 0, 1, 64, 1 << 31, greatest} {
			for _, most := range []int{1, 0, -1} {
				y.refuse(at, 0, 50, most, api.ErrNil)
				y.refuse(at, 50, 0, most, api.ErrNil)
			}
		}
	}
	if x.state() != ahead {
		t.Error("something has changed")
	}
}

// ErrNil ahead of all: by Clear, Refs that are none; what stands at the root is not asked then.
func TestNoRefs(t *testing.T) {
	x := anew(t, 64, 8)
	root := x.built(shape{{4, 4}}, tens)
	ahead := x.state()
	for _, r := range []*refs.Refs{nil, {}} {
		for _, s := range []*tree.Shelf{x.s, nil, {}} {
			for _, at := range []uint64{root, 0, 1, 64, 1 << 31, greatest} {
				for _, to := range []uint64{0, 1, 45, greatest} {
					if got, n, e := stretch.Clear(s, r, at, 0, to); got != 0 || n != 0 || e != api.ErrNil {
						t.Errorf("Clear = %d, %d, %d", got, n, e)
					}
				}
			}
		}
	}
	if x.state() != ahead {
		t.Error("something has changed")
	}
}

// R1: a shelf on Refs, or on a cache, that no New made: what needs them tells ErrNil, and nothing beside it.
func TestShelfOnNone(t *testing.T) {
	x := anew(t, 64, 8)
	root := x.built(shape{{4, 4}}, tens)
	y := *x
	y.s = tree.New(x.r, &cache.Cache{})
	y.refuse(root, 0, 50, 9, api.ErrNil)
	ahead := x.state()
	if got, n, e := stretch.Clear(tree.New(&refs.Refs{}, x.c), x.r, root, 0, 50); got != 0 || n != 0 || e != api.ErrNil {
		t.Errorf("Clear = %d, %d, %d", got, n, e)
	}
	if x.state() != ahead {
		t.Error("something has changed")
	}
}

// A root that is no block: Load's ErrArg, if it can't be one; ErrNone, if the disk has none such.
func TestRootThatIsNoBlock(t *testing.T) {
	x := anew(t, 64, 8)
	for at, want := range map[uint64]api.Errno{
		64: api.ErrNone, 65: api.ErrNone, 1024: api.ErrNone, 1<<31 - 1: api.ErrNone,
		1 << 31: api.ErrArg, 1<<32 + 3: api.ErrArg, 1 << 63: api.ErrArg, greatest: api.ErrArg,
	} {
		x.refuse(at, 0, greatest, 9, want)
	}
}

// broken: what stands at a block is no node any more: it tells that error.
func (x *stand) broken(at uint64, want api.Errno) {
	x.t.Helper()
	form, _ := stamp.Seal([]byte{1}, int(at), api.KindNode) // cut off behind its kind: noughts are no keys
	switch want {
	case api.ErrSum:
		form[9] ^= 1
	case api.ErrPlace:
		form, _ = stamp.Seal(nil, int(at)+1, api.KindNode)
	case api.ErrKind:
		form, _ = stamp.Seal(nil, int(at), api.KindEntry)
	}
	if e := x.c.Put(int(at), form); e != api.OK {
		x.t.Fatal("Put:", e)
	}
	if _, e := x.s.Load(at); e != want {
		x.t.Fatalf("Load tells %d, want %d", e, want)
	}
}

// Those of the shelf's Load: the root's.
func TestBrokenRoot(t *testing.T) {
	for _, want := range []api.Errno{api.ErrSum, api.ErrPlace, api.ErrKind, api.ErrForm} {
		for _, fills := range []shape{{{4}}, {{4, 4}}} {
			x := anew(t, 64, 8)
			root := x.built(fills, tens)
			x.broken(root, want)
			x.refuse(root, 0, greatest, 9, want)
		}
	}
}

// Those of the shelf's Load: of several leaves that are broken the first one that is met is told; what is not met is not.
func TestBrokenLeaves(t *testing.T) {
	x := anew(t, 64, 8)
	root := x.built(shape{{4, 4, 4, 4, 4}}, tens)
	pairs := x.listed(root)
	leaves := x.node(root).Vals
	x.broken(leaves[1], api.ErrSum)
	x.broken(leaves[3], api.ErrKind)
	for _, y := range []struct {
		from, to uint64
		most     int
		want     []stretch.Pair
		e        api.Errno
	}{
		{0, greatest, 9, nil, api.ErrSum},
		{0, greatest, 5, nil, api.ErrSum},
		{0, greatest, 4, pairs[:4], api.OK},
		{0, 50, 9, pairs[:4], api.OK},
		{0, 51, 9, nil, api.ErrSum},
		{45, 50, 9, nil, api.OK},
		{50, 60, 9, nil, api.ErrSum},
		{85, 86, 9, nil, api.ErrSum}, // what is there only the leaf ahead tells
		{90, 130, 9, pairs[8:12], api.OK},
		{90, 131, 9, nil, api.ErrKind},
		{90, 200, 4, pairs[8:12], api.OK},
		{130, 180, 9, nil, api.ErrKind},
		{170, greatest, 9, pairs[16:], api.OK},
	} {
		if y.e == api.OK {
			x.each(root, y.from, y.to, y.most, y.want)
			continue
		}
		x.eachError(root, y.from, y.to, y.most, y.e)
		if y.most == 9 {
			if got, n, e := stretch.Clear(x.s, x.r, root, y.from, y.to); got != 0 || n != 0 || e != y.e {
				t.Errorf("Clear(%d, %d) = %d, %d, %d, want the error %d", y.from, y.to, got, n, e, y.e)
			}
		}
	}
	p, there, e := stretch.First(x.s, root)
	x.told("First", pairs, p, there, e)
	p, there, e = stretch.Last(x.s, root)
	x.told("Last", pairs[19:], p, there, e)
	if n, e := stretch.Count(x.s, root); n != 0 || e != api.ErrSum {
		t.Errorf("Count = %d, %d", n, e)
	}
	for key, want := range map[uint64]api.Errno{40: api.OK, 41: api.ErrSum, 50: api.ErrSum, 89: api.ErrSum, 90: api.OK, 130: api.ErrKind, 170: api.OK} {
		if p, there, e := stretch.Next(x.s, root, key); e != want || there != (e == api.OK) || p.Key != map[uint64]uint64{40: 40, 90: 90, 170: 170}[key] {
			t.Errorf("Next(%d) = %v, %t, %d, want the error %d", key, p, there, e, want)
		}
	}
	x.broken(leaves[4], api.ErrPlace)
	if p, there, e := stretch.Last(x.s, root); p != (stretch.Pair{}) || there || e != api.ErrPlace {
		t.Errorf("Last = %v, %t, %d", p, there, e)
	}
}

// tree.Remove's errors: a neighbour that is broken is met only by what is taken out; behind that all is as ahead.
func TestBrokenNeighbour(t *testing.T) {
	for _, way := range held[:3] {
		x := anew(t, 64, 64)
		root := x.built(shape{{6, 4, 4}}, tens)
		way.do(x, root)
		x.broken(x.node(root).Vals[1], api.ErrKind)
		counts := x.counted()
		if got, n, e := stretch.Clear(x.s, x.r, root, 0, 60); got != 0 || n != 0 || e != api.ErrKind {
			t.Errorf("%s: Clear = %d, %d, %d", way.name, got, n, e)
		}
		if first := x.node(x.node(root).Vals[0]); x.counted() != counts || len(first.Keys) != 6 {
			t.Errorf("%s: behind the error the first leaf is %v", way.name, first)
		}
		got, n, e := stretch.Clear(x.s, x.r, root, 0, 30)
		if n != 2 || e != api.OK {
			t.Errorf("%s: Clear = %d, %d, %d", way.name, got, n, e)
		}
	}
}

// ErrPool, if more than 12 nodes stand one beneath the other; 12 may.
func TestDeep(t *testing.T) {
	for deep := 1; deep <= 40; deep++ {
		for _, way := range held[:2] {
			x := anew(t, 128, 8)
			p := x.leaf([]uint64{10, 20, 30, 40, 50})
			pairs := x.listed(p.Val)
			for range deep - 1 {
				p.Val = x.create(false, p)
			}
			way.do(x, p.Val)
			if deep > 12 {
				counts := x.counted()
				for _, key := range []uint64{0, 10, 35, 50} {
					x.refuse(p.Val, key, greatest, 9, api.ErrPool)
				}
				if x.counted() != counts {
					t.Errorf("%d deep: the counts have changed", deep)
				}
				continue
			}
			x.has(p.Val, pairs)
			got, n, e := stretch.Clear(x.s, x.r, p.Val, 20, 40)
			if n != 2 || e != api.OK {
				t.Fatalf("Clear, %d deep = %d, %d, %d", deep, got, n, e)
			}
			x.has(got, without(pairs, 20, 40))
		}
	}
}

// Nodes that point to themselves, or to one another: ErrPool, and each call ends.
func TestRound(t *testing.T) {
	type pair = stretch.Pair
	for _, nodes := range []map[uint64][]pair{
		{3: {{Key: 5, Val: 3}}},
		{3: {{Key: 5, Val: 3}, {Key: 7, Val: 3}}},
		{3: {{Key: 5, Val: 4}}, 4: {{Key: 2, Val: 3}, {Key: 9, Val: 3}}},
		{3: {{Key: 5, Val: 4}, {Key: 6, Val: 5}}, 4: {{Key: 2, Val: 5}}, 5: {{Key: 1, Val: 3}}},
		{3: {{Key: 0, Val: 3}, {Key: 1, Val: 3}, {Key: 2, Val: 3}, {Key: 3, Val: 3}, {Key: 4, Val: 3}, {Key: 5, Val: 3}, {Key: 6, Val: 3}, {Key: greatest, Val: 3}}},
	} {
		x := anew(t, 64, 8)
		for range 4 {
			x.data()
		}
		for at, l := range nodes {
			x.save(at, false, l...)
		}
		for _, way := range held[:2] {
			way.do(x, 3)
			for _, from := range []uint64{0, 5, 8} {
				x.refuse(3, from, greatest, 9, api.ErrPool)
			}
		}
	}
}

// ends in time: 12 nodes one beneath the other, each of which has the one beneath it eight times, are as wide as no disk: each call ends.
func TestSameNodeOften(t *testing.T) {
	for _, keys := range [][]uint64{{0, 1, 2, 3, 4, 5, 6, 7}, {5}, {greatest}, {10, 20, 30, 40, 50, 60, 70, 80}} {
		for _, step := range []uint64{1, 10, 1 << 60} {
			x := anew(t, 64, 64)
			p := x.leaf(keys)
			for range 11 {
				var l []stretch.Pair
				for i := range uint64(8) {
					l = append(l, stretch.Pair{Key: i * step, Val: p.Val})
				}
				p.Val = x.create(false, l...)
			}
			for _, from := range []uint64{0, 6, 45, 100, greatest - 1} {
				for _, to := range []uint64{5, 46, greatest} {
					y := x.copied(64)
					for call, a := range y.asked(p.Val, from, to, maxInt) {
						if a.e != api.OK && !a.nought {
							t.Errorf("%s tells something beside the error %d", call, a.e)
						}
					}
				}
			}
		}
	}
}

// wild: a stand in whose blocks stand nodes of any kind that point anywhere, counted anyhow.
func wild(t *testing.T, seed uint64) *stand {
	t.Helper()
	g := numbers(1000 + seed)
	blocks := 6 + g.IntN(40)
	x := anew(t, blocks, 1+g.IntN(blocks))
	x.full(g.IntN(4))
	for at := range uint64(blocks) {
		for range g.IntN(3) * g.IntN(2) {
			if x.r.Count(int(at)) > 0 {
				x.inc(at)
			}
		}
		if g.IntN(20) == 0 {
			continue // noughts
		}
		key := g.Uint64N(4)
		var pairs []stretch.Pair
		for range 1 + g.IntN(api.MaxKeys) {
			val := 1 + g.Uint64N(uint64(blocks))
			if g.IntN(60) == 0 {
				val = []uint64{1 << 31, 1<<32 + 3, 1 << 63, greatest}[g.IntN(4)]
			}
			pairs = append(pairs, stretch.Pair{Key: key, Val: val})
			key += 1 + g.Uint64N(4)
		}
		x.save(at, g.IntN(3) == 0, pairs...)
	}
	if g.IntN(2) == 0 {
		x.commit()
	}
	return x
}

// R1, R2: whatever stands in the blocks, each call ends, panics not, tells nothing beside an error, and has changed no count behind it.
func TestWild(t *testing.T) {
	told := map[api.Errno]int{}
	for seed := range uint64(3000) {
		x := wild(t, seed)
		g := numbers(seed)
		root, from := g.Uint64N(uint64(len(x.r.Counts())+1)), g.Uint64N(30)
		counts := x.counted()
		for call, a := range x.asked(root, from, from+g.Uint64N(30), g.IntN(20)) {
			told[a.e]++
			if a.e != api.OK && !a.nought {
				t.Fatalf("seed %d: %s tells something beside the error %d", seed, call, a.e)
			}
			if call == "Clear" && a.e != api.OK && x.counted() != counts {
				t.Fatalf("seed %d: behind the error %d the counts have changed", seed, a.e)
			}
		}
	}
	for _, e := range []api.Errno{api.OK, api.ErrArg, api.ErrNone, api.ErrFull, api.ErrPool, api.ErrSum} {
		if told[e] == 0 {
			t.Errorf("the error %d was not met: %v", e, told)
		}
	}
}

// A pair that is gone through, and that Remove does not find, as the tree is not right, does not go, and nothing is counted less for it.
func TestClearOfNotFound(t *testing.T) {
	x := anew(t, 64, 8)
	one, two := x.leaf([]uint64{10, 20, 60, 70}), x.leaf([]uint64{50, 80, 90, 95})
	root := x.create(false, one, two)
	counts := x.counted()
	got, n, e := stretch.Clear(x.s, x.r, root, 60, 65)
	if got != root || n != 0 || e != api.OK || x.counted() != counts {
		t.Errorf("Clear = %d, %d, %d", got, n, e)
	}
}

// ErrOff, where the power is off.
func TestOff(t *testing.T) {
	for _, fills := range []shape{{{4}}, {{4, 4}}} {
		x := anew(t, 64, 8)
		root := x.built(fills, tens)
		x.d.Fuse(1)
		x.d.Barrier()
		x.refuse(root, 0, greatest, 9, api.ErrOff)
		x.eachError(root, 0, greatest, -1, api.ErrArg)
	}
}

// The power goes in any of Clear's writes: ErrOff is told, or it is done.
func TestFuse(t *testing.T) {
	off, done := 0, 0
	for fuse := range 60 {
		x := anew(t, 128, 64)
		root := x.built(shape{{4, 4, 4, 4}, {4, 4, 4, 4}}, tens)
		pairs := x.listed(root)
		x.commit()
		x = x.copied(2)
		x.d.Fuse(fuse + 1)
		counts := x.counted()
		got, n, e := stretch.Clear(x.s, x.r, root, 30, 200)
		switch {
		case x.d.Off():
			off++
			if got != 0 || n != 0 || e != api.ErrOff || x.counted() != counts {
				t.Errorf("Clear, the power going at %d: %d, %d, %d", fuse+1, got, n, e)
			}
		default:
			done++
			if n != 17 || e != api.OK {
				t.Errorf("Clear: %d, %d, %d", got, n, e)
			}
			x.d.Fuse(0)
			x.has(got, without(pairs, 30, 200))
		}
	}
	if off == 0 || done == 0 {
		t.Errorf("the power went %d times, and did not %d times", off, done)
	}
}
