package share_test

import (
	"slices"
	"testing"

	"cistern/api"
	"cistern/cache"
	"cistern/refs"
	"cistern/share"
	"cistern/tree"
)

// refused: what each call that asks for nodes tells of a root, alone and beside another one, but Clone. Drop is asked last, on Refs of its own.
func (x *stand) refused(root, other uint64) map[string]api.Errno {
	x.t.Helper()
	all := map[string]api.Errno{}
	told := func(call string, nought bool, e api.Errno) {
		x.t.Helper()
		if e != api.OK && !nought {
			x.t.Errorf("%s of %d tells something beside the error %d", call, root, e)
		}
		all[call] = e
	}
	keys, e := share.Diff(x.s, root, other)
	told("Diff", len(keys) == 0, e)
	keys, e = share.Diff(x.s, other, root)
	told("Diff, the other way about", len(keys) == 0, e)
	often, e := share.Reach(x.s, x.r, []uint64{root, other})
	told("Reach", len(often) == 0, e)
	often, e = share.Reach(x.s, x.r, []uint64{other, other, root})
	told("Reach, the other way about", len(often) == 0, e)
	told("Drop", true, share.Drop(x.s, x.r.Copy(), root))
	return all
}

// refuse: that each of these calls tells that error.
func (x *stand) refuse(root, other uint64, want api.Errno) {
	x.t.Helper()
	for call, e := range x.refused(root, other) {
		if e != want {
			x.t.Errorf("%s of %d tells %d, want the error %d", call, root, e, want)
		}
	}
}

// noBlocks: roots that are no blocks of a stand of 64, and what the shelf and the Refs tell of them.
var noBlocks = map[uint64]api.Errno{
	64: api.ErrNone, 65: api.ErrNone, 1024: api.ErrNone, 1<<31 - 1: api.ErrNone,
	1 << 31: api.ErrArg, 1<<32 + 3: api.ErrArg, 1 << 63: api.ErrArg, greatest: api.ErrArg,
}

// ErrNil ahead of all: a shelf that is none, whatever else is asked for, the empty tree, too.
func TestNoShelf(t *testing.T) {
	x := anew(t, 64, 8)
	root := x.built(shape{{4, 4}})
	x.stays("a call with no shelf", func() {
		for _, s := range []*tree.Shelf{nil, {}, tree.New(nil, x.c), tree.New(x.r, nil)} {
			for _, at := range []uint64{root, 0, 1, 40, 64, 1 << 31, greatest} {
				for _, r := range []*refs.Refs{x.r, nil, {}} {
					x.noObject(s, r, at)
				}
				for _, other := range []uint64{root, 0, greatest} {
					keys, e := share.Diff(s, at, other)
					back, f := share.Diff(s, other, at)
					if len(keys)+len(back) > 0 || e != api.ErrNil || f != api.ErrNil {
						t.Errorf("Diff of %d and %d = %v, %d; %v, %d", at, other, keys, e, back, f)
					}
				}
			}
		}
	})
}

// ErrNil ahead of all: Refs that are none; what stands at the root is not asked then.
func TestNoRefs(t *testing.T) {
	x := anew(t, 64, 8)
	root := x.built(shape{{4, 4}})
	x.stays("a call with no Refs", func() {
		for _, r := range []*refs.Refs{nil, {}} {
			for _, at := range []uint64{root, 0, 1, 40, 64, 1 << 31, greatest} {
				x.noObject(x.s, r, at)
			}
		}
	})
}

// noObject: that each call that has Refs tells ErrNil of these.
func (x *stand) noObject(s *tree.Shelf, r *refs.Refs, root uint64) {
	x.t.Helper()
	if e := share.Clone(s, r, root); e != api.ErrNil {
		x.t.Errorf("Clone of %d tells %d", root, e)
	}
	if e := share.Drop(s, r, root); e != api.ErrNil {
		x.t.Errorf("Drop of %d tells %d", root, e)
	}
	for _, roots := range [][]uint64{nil, {root}, {0, root}} {
		if often, e := share.Reach(s, r, roots); len(often) > 0 || e != api.ErrNil {
			x.t.Errorf("Reach of %v tells %v, %d", roots, often, e)
		}
	}
}

// R1: a shelf on a cache that no New made tells ErrNil of each node.
func TestShelfOnNone(t *testing.T) {
	x := anew(t, 64, 8)
	root := x.built(shape{{4, 4}})
	x.s = tree.New(x.r, &cache.Cache{})
	x.refuse(root, 0, api.ErrNil)
	x.ok("Clone", share.Clone(x.s, x.r, root))
}

// A root that is no block: Clone and Drop tell the Refs' ErrArg, Diff what Load tells, Reach ErrPool.
func TestRootThatIsNoBlock(t *testing.T) {
	x := anew(t, 64, 8)
	for at, load := range noBlocks {
		x.stays("a call with no block", func() {
			if e := share.Clone(x.s, x.r, at); e != api.ErrArg {
				t.Errorf("Clone of %d tells %d", at, e)
			}
			for call, e := range x.refused(at, 0) {
				want := map[string]api.Errno{"Drop": api.ErrArg, "Diff": load, "Diff, the other way about": load}[call]
				if want == api.OK {
					want = api.ErrPool
				}
				if e != want {
					t.Errorf("%s of %d tells %d, want %d", call, at, e, want)
				}
			}
			if e := share.Drop(x.s, x.r, at); e != api.ErrArg {
				t.Errorf("Drop of %d tells %d", at, e)
			}
		})
	}
}

// The Refs' ErrNone, of a root that nobody points to; ErrFull, of one that is counted as often as may be: what stands there stays.
func TestClonedTooOften(t *testing.T) {
	x := anew(t, 64, 8)
	root := x.built(shape{{4, 4}})
	for range api.MaxCount - 1 {
		x.clone(root)
	}
	x.stays("Clone of a root that is counted too often", func() {
		if e := share.Clone(x.s, x.r, root); e != api.ErrFull {
			t.Errorf("Clone tells %d", e)
		}
	})
	for range api.MaxCount {
		x.drop(root)
	}
	x.stays("Clone and Drop of a root that nobody has", func() {
		if e := share.Clone(x.s, x.r, root); e != api.ErrNone {
			t.Errorf("Clone tells %d", e)
		}
		if e := share.Drop(x.s, x.r, root); e != api.ErrNone {
			t.Errorf("Drop tells %d", e)
		}
	})
	x.counted()
}

// Those of the shelf's Load: the root's.
func TestBrokenRoot(t *testing.T) {
	for _, want := range []api.Errno{api.ErrSum, api.ErrPlace, api.ErrKind, api.ErrForm} {
		for _, fills := range []shape{{{4}}, {{4, 4}}, {{4, 4}, {4, 4}}} {
			x := anew(t, 64, 8)
			root := x.built(fills)
			x.broken(root, want)
			x.refuse(root, 0, want)
			x.clone(root)
			x.drop(root)
		}
	}
}

// Those of the shelf's Load: of several leaves that are broken the first one that is met is told, in order.
func TestBrokenLeaves(t *testing.T) {
	for first := range 5 {
		for second := first + 1; second < 5; second++ {
			x := anew(t, 64, 8)
			root := x.built(shape{{4, 4, 4, 4, 4}})
			leaves := x.node(root).Vals
			x.broken(leaves[first], api.ErrSum)
			x.broken(leaves[second], api.ErrKind)
			x.refuse(root, 0, api.ErrSum)
			other := x.leaf(1000).val
			x.refuse(root, other, api.ErrSum)
			x.broken(other, api.ErrPlace)
			all := x.refused(root, other)
			if all["Diff, the other way about"] != api.ErrPlace || all["Reach"] != api.ErrSum || all["Reach, the other way about"] != api.ErrPlace {
				t.Errorf("of two broken trees is told: %v", all)
			}
			if first > 0 && all["Diff"] != api.ErrPlace || first == 0 && all["Diff"] != api.ErrSum {
				t.Errorf("of a tree, and of one whose left edge is broken, Diff tells %d", all["Diff"])
			}
		}
	}
}

// A broken node that both trees have is met by Diff on the left edge alone.
func TestDiffOfBroken(t *testing.T) {
	x := anew(t, 64, 64)
	root := x.built(shape{{4, 4}, {4, 4}})
	x.clone(root)
	to := x.insert(root, 160, x.data())
	for _, at := range sorted(x.blocks(root)) {
		y := x.copied(64)
		both := y.blocks(to)[at]
		if edge := y.edge(root)[at]; both && !edge {
			y.broken(at, api.ErrForm)
			y.differ(root, to, []uint64{160})
			continue
		}
		y.broken(at, api.ErrForm)
		for _, e := range []api.Errno{y.refused(root, to)["Diff"], y.refused(root, to)["Diff, the other way about"]} {
			if e != api.ErrForm {
				t.Errorf("with the block %d broken Diff tells %d", at, e)
			}
		}
	}
}

// The Refs' own: of a leaf's values the first one is told that they can't count less; what they tell of a child is told as well.
func TestDropOfWrongValues(t *testing.T) {
	for _, y := range []struct {
		vals []uint64
		want api.Errno
	}{
		{[]uint64{60}, api.ErrNone}, {[]uint64{64}, api.ErrArg}, {[]uint64{1 << 31}, api.ErrArg},
		{[]uint64{1<<32 + 2}, api.ErrArg}, {[]uint64{greatest}, api.ErrArg},
		{[]uint64{60, 64}, api.ErrNone}, {[]uint64{64, 60}, api.ErrArg}, {[]uint64{greatest, 60}, api.ErrArg},
		{[]uint64{2, 60, greatest}, api.ErrNone}, {[]uint64{2, 2, greatest}, api.ErrNone}, {[]uint64{2, greatest, 2}, api.ErrArg},
	} {
		for _, leaf := range []bool{true, false} {
			x := anew(t, 64, 8)
			x.leaf(5) // 3 then has the value 2
			x.ok("Drop", share.Drop(x.s, x.r, 3))
			x.data()
			if !leaf {
				x.save(2, true, couple{9, 1})
			}
			var l []couple
			for i, val := range y.vals {
				l = append(l, couple{uint64(i), val})
			}
			root := x.create(leaf, l...).val
			if e := share.Drop(x.s, x.r, root); e != y.want {
				t.Errorf("Drop of a node of %v (%t) tells %d, want %d", y.vals, leaf, e, y.want)
			}
		}
	}
}

// ErrPool, by Reach: a root, a child or a value that is no block of the Refs; the last one there is, and 0, are.
func TestReachOfNoBlock(t *testing.T) {
	x := anew(t, 64, 8)
	good := x.built(shape{{4, 4}})
	for at := range noBlocks {
		for _, leaf := range []bool{true, false} {
			for _, l := range [][]couple{{{5, at}}, {{5, good}, {6, at}}, {{5, good}, {6, at}, {7, good}}} {
				root := x.create(leaf, l...).val
				for _, roots := range [][]uint64{{root}, {good, root}, {root, 0, good}, {at}, {good, at}, {0, at, 0}} {
					if often, e := share.Reach(x.s, x.r, roots); len(often) > 0 || e != api.ErrPool {
						t.Errorf("Reach of %v = %v, %d", roots, often, e)
					}
				}
				x.lose(root, true)
			}
		}
	}
	root := x.create(true, couple{5, 63}, couple{6, 1}).val
	x.reach(root)
}

// ErrPool, by Reach: Refs of fewer blocks than the shelf's; of more, what Load tells of a node that is none.
func TestReachOnOtherRefs(t *testing.T) {
	x := anew(t, 64, 8)
	root := x.built(shape{{4, 4}})
	for _, blocks := range []int{1, int(root), int(root) + 1, 63, 64, 200} {
		r, e := refs.New(make([]byte, blocks))
		x.ok("refs.New", e)
		often, e := share.Reach(x.s, r, []uint64{root})
		if blocks <= int(root) {
			if len(often) > 0 || e != api.ErrPool {
				t.Errorf("Reach on Refs of %d blocks = %v, %d", blocks, often, e)
			}
			continue
		}
		want := append(x.pointed(root), make([]int, 200)...)[:blocks]
		if e != api.OK || !slices.Equal(often, want) {
			t.Errorf("Reach on Refs of %d blocks = %v, %d, want %v", blocks, often, e, want)
		}
		if often, e := share.Reach(x.s, r, []uint64{100}); len(often) > 0 || e != map[bool]api.Errno{true: api.ErrNone, false: api.ErrPool}[blocks == 200] {
			t.Errorf("Reach of 100 = %v, %d", often, e)
		}
	}
}

// deep: a tree of so many nodes one beneath the other, over a leaf; told are their blocks, the leaf's first.
func (x *stand) deep(nodes int) []uint64 {
	x.t.Helper()
	c := x.leaf(10, 20, 30)
	l := []uint64{c.val}
	for range nodes - 1 {
		c = x.create(false, c)
		l = append(l, c.val)
	}
	return l
}

// ErrPool, if more than 12 nodes stand one beneath the other; 12 may. Clone asks for none of them.
func TestDeep(t *testing.T) {
	for nodes := 1; nodes <= 40; nodes++ {
		x := anew(t, 128, 8)
		l := x.deep(nodes)
		root, other := l[nodes-1], x.leaf(20).val
		x.clone(root)
		x.drop(root)
		if nodes > 12 {
			x.stays("a call of a tree that is too deep", func() { x.refuse(root, other, api.ErrPool) })
			x.stays("a call of a tree that is too deep", func() { x.refuse(root, root, api.ErrPool) })
			continue
		}
		x.diff(root, other)
		x.diff(root, 0)
		x.reach(root, other)
		x.as(root)
		x.counted(other)
	}
}

// ErrPool, wherever they stand beneath the root: on the left edge, or beside it.
func TestDeepBesideTheEdge(t *testing.T) {
	for nodes := 1; nodes <= 14; nodes++ {
		for _, y := range [][]int{{1, nodes}, {nodes, 1}, {2, nodes}, {1, 3, nodes, 2}} {
			x := anew(t, 128, 8)
			var l []couple
			for i, n := range y {
				parts := x.deep(n)
				l = append(l, couple{uint64(i * 100), parts[n-1]})
			}
			root := x.create(false, l...).val
			if nodes > 11 {
				x.refuse(root, 0, api.ErrPool)
				continue
			}
			for call, e := range x.refused(root, 0) {
				if e != api.OK {
					t.Errorf("%s of a tree %d deep beside the edge tells %d", call, 1+nodes, e)
				}
			}
		}
	}
}

// ErrPool, by Reach: whatever was taken ahead, a root that stands too high above the leaves is refused, and one that does not is not.
func TestReachOfDeepParts(t *testing.T) {
	x := anew(t, 64, 64)
	l := x.deep(14)
	for i, root := range l {
		for _, roots := range [][]uint64{{root}, {l[5], root}, {l[11], l[0], root}, {root, l[11]}, {l[2], l[8], root, l[4]}} {
			_, e := share.Reach(x.s, x.r, roots)
			if want := map[bool]api.Errno{true: api.ErrPool}[i > 11]; e != want {
				t.Errorf("Reach of %v, %d deep, tells %d, want %d", roots, i+1, e, want)
			}
		}
	}
	// Two ways down to one node, the longer one behind the shorter one, and the other way about.
	for _, turn := range []bool{false, true} {
		for high := 9; high <= 12; high++ {
			one, two := couple{1, l[high-3]}, couple{2, l[high-2]}
			if turn {
				one.val, two.val = two.val, one.val
			}
			root := x.create(false, one, two).val
			_, e := share.Reach(x.s, x.r, []uint64{root})
			if e != api.OK {
				t.Errorf("Reach, %d deep, tells %d", high, e)
			}
			x.lose(root, true)
			root = x.create(false, couple{1, l[1]}, couple{2, l[high]}).val
			_, e = share.Reach(x.s, x.r, []uint64{root})
			if want := map[bool]api.Errno{true: api.ErrPool}[high > 10]; e != want {
				t.Errorf("Reach, %d deep, tells %d, want %d", high+2, e, want)
			}
			x.lose(root, true)
		}
	}
}

// Nodes that point to themselves, or to one another: more than 12 stand one beneath the other. Drop ends where one is pointed to yet, or by the Refs' ErrNone.
func TestRound(t *testing.T) {
	for _, nodes := range []map[uint64][]couple{
		{3: {{5, 3}}},
		{3: {{5, 3}, {7, 3}}},
		{3: {{5, 4}}, 4: {{2, 3}, {9, 3}}},
		{3: {{5, 4}, {6, 5}}, 4: {{2, 5}}, 5: {{1, 3}}},
		{3: {{0, 3}, {1, 3}, {2, 3}, {3, 3}, {4, 3}, {5, 3}, {6, 3}, {greatest, 3}}},
	} {
		x := anew(t, 64, 8)
		for range 4 {
			x.data()
		}
		for at, l := range nodes {
			x.save(at, false, l...)
		}
		other := x.leaf(6).val
		for call, e := range x.refused(3, other) {
			if call != "Drop" && e != api.ErrPool || call == "Drop" && e != api.ErrNone {
				t.Errorf("%s of %v tells %d", call, nodes, e)
			}
		}
		x.inc(3)
		x.drop(3)
		if x.r.Count(3) != 1 {
			t.Error("Drop of a root that is held has counted more than that")
		}
	}
}

// ends in time: 12 nodes one beneath the other, each of which has the one beneath it eight times, are as wide as no disk: each call ends.
func TestSameNodeOften(t *testing.T) {
	for _, keys := range [][]uint64{{0, 1, 2, 3, 4, 5, 6, 7}, {5}, {greatest}, {10, 20, 30, 40, 50, 60, 70, 80}} {
		for _, step := range []uint64{1, 10, 1 << 60} {
			x := anew(t, 64, 64)
			one, two := x.often(keys, step), x.often(keys, step+1)
			for call, e := range x.refused(one, two) {
				if call != "Reach" && call != "Reach, the other way about" && call != "Drop" && e != api.ErrPool {
					t.Errorf("%s tells %d", call, e)
				}
			}
			x.refused(two, 0)
			x.reach12(one, two)
		}
	}
}

// often: the root of such a tree.
func (x *stand) often(keys []uint64, step uint64) uint64 {
	x.t.Helper()
	c := x.leaf(keys...)
	for range 11 {
		var l []couple
		for i := range uint64(8) {
			l = append(l, couple{i * step, c.val})
		}
		c = x.create(false, l...)
	}
	return c.val
}

// reach12: that Reach takes each node of these trees once.
func (x *stand) reach12(roots ...uint64) {
	x.t.Helper()
	often, e := share.Reach(x.s, x.r, roots)
	x.ok("Reach", e)
	all := 0
	for _, n := range often {
		all += n
	}
	if want := 11*8*len(roots) + len(roots); all <= want || all > want+8*len(roots) {
		x.t.Errorf("Reach tells %d pointers in all, want those of %d inner nodes and %d leaves", all, 11*len(roots), len(roots))
	}
}

// wild: a stand in whose blocks stand nodes of any kind that point anywhere, counted anyhow.
func wild(t *testing.T, seed uint64) *stand {
	t.Helper()
	g := numbers(1000 + seed)
	blocks := 6 + g.IntN(40)
	x := anew(t, blocks, 1+g.IntN(blocks))
	for x.r.Free() > g.IntN(4) {
		x.data()
	}
	down := g.IntN(2) == 0 // nodes point to blocks behind them alone then: none goes round
	for at := range uint64(blocks) {
		for range g.IntN(3) * g.IntN(2) {
			if x.r.Count(int(at)) > 0 {
				x.inc(at)
			}
		}
		if g.IntN(20) == 0 {
			continue // noughts
		}
		key := g.Uint64N(4)
		var l []couple
		for range 1 + g.IntN(api.MaxKeys) {
			val := 1 + g.Uint64N(uint64(blocks))
			if down {
				val = min(at+1+g.Uint64N(6), uint64(blocks)-1)
			}
			if g.IntN(60) == 0 {
				val = []uint64{1 << 31, 1<<32 + 3, 1 << 63, greatest}[g.IntN(4)]
			}
			l = append(l, couple{key, val})
			key += 1 + g.Uint64N(4)
		}
		x.save(at, g.IntN(3) == 0, l...)
	}
	if g.IntN(2) == 0 {
		x.commit()
	}
	return x
}

// R1, R2: whatever stands in the blocks, each call ends, panics not, tells nothing beside an error, and what is no Drop has changed nothing.
func TestWild(t *testing.T) {
	told := map[api.Errno]int{}
	for seed := range uint64(4000) {
		x := wild(t, seed)
		g := numbers(seed)
		blocks := uint64(len(x.r.Counts()))
		root, other := g.Uint64N(blocks+1), g.Uint64N(blocks)
		counts := x.seen()
		for _, e := range x.refused(root, other) {
			told[e]++
		}
		if x.seen() != counts {
			t.Fatalf("seed %d: the counts have changed", seed)
		}
		told[share.Drop(x.s, x.r, root)]++
		told[share.Clone(x.s, x.r, other)]++
	}
	for _, e := range []api.Errno{api.OK, api.ErrArg, api.ErrNone, api.ErrPool, api.ErrSum} {
		if told[e] == 0 {
			t.Errorf("the error %d was not met: %v", e, told)
		}
	}
}

// ErrOff, where the power is off; what asks for no node does not ask for it.
func TestOff(t *testing.T) {
	for _, fills := range []shape{{{4}}, {{4, 4}}} {
		x := anew(t, 64, 8)
		root := x.built(fills)
		x.d.Fuse(1)
		x.d.Barrier()
		x.refuse(root, 0, api.ErrOff)
		x.clone(root)
		x.drop(root)
		x.clone(0)
		x.drop(0)
		if keys, e := share.Diff(x.s, 0, 0); len(keys) > 0 || e != api.OK {
			t.Errorf("Diff of 0 and 0 = %v, %d", keys, e)
		}
	}
}

// The power goes while room is made for a node: ErrOff is told, or all is done.
func TestFuse(t *testing.T) {
	off, done := 0, 0
	for fuse := range 12 {
		for call := range 3 {
			x := anew(t, 128, 6)
			root := x.built(shape{{4, 4, 4, 4}, {4, 4, 4, 4}})
			x.d.Fuse(fuse + 1)
			var e api.Errno
			nought := true
			switch call {
			case 0:
				e = share.Drop(x.s, x.r, root)
			case 1:
				often, f := share.Reach(x.s, x.r, []uint64{root})
				e, nought = f, len(often) == 0
			case 2:
				keys, f := share.Diff(x.s, root, 0)
				e, nought = f, len(keys) == 0
			}
			switch {
			case x.d.Off():
				off++
				if e != api.ErrOff || !nought {
					t.Errorf("the power going at %d: %d", fuse+1, e)
				}
			default:
				done++
				if e != api.OK {
					t.Errorf("the power not going: %d", e)
				}
			}
		}
	}
	if off == 0 || done == 0 {
		t.Errorf("the power went %d times, and did not %d times", off, done)
	}
}
