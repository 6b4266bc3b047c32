package tree_test

import (
	"slices"
	"testing"

	"cistern/api"
	"cistern/node"
	"cistern/tree"
)

// chain: the root of so many nodes, one beneath the other; the last one is a leaf of these keys.
func (x *stand) chain(deep int, keys ...uint64) uint64 {
	x.t.Helper()
	at := x.create(leaf(1, keys...))
	for range deep - 1 {
		at = x.create(of(false, []couple{{keys[0], at}}))
	}
	return at
}

// ErrPool, if more than 12 nodes stand one beneath the other; 12 may.
func TestDeep(t *testing.T) {
	for deep := 1; deep <= 40; deep++ {
		for _, way := range held[:2] {
			x := anew(t, 128, back, 8)
			root := x.chain(deep, 10, 20, 30, 40, 50)
			way.do(x, root)
			for _, key := range []uint64{0, 10, 35, 50, greatest} {
				deepLookup(x, root, deep, key)
				deepInsert(x.copied(), root, deep, key)
				deepRemove(x.copied(), root, deep, key)
			}
		}
	}
}

func deepLookup(x *stand, root uint64, deep int, key uint64) {
	x.t.Helper()
	want := x.p.pairs(root)
	if deep <= 12 {
		x.has(root, want, key)
		return
	}
	if val, there, e := tree.Lookup(x.s, root, key); val != 0 || there || e != api.ErrPool {
		x.t.Errorf("Lookup of %d, %d deep = %d, %t, %d", key, deep, val, there, e)
	}
}

func deepInsert(x *stand, root uint64, deep int, key uint64) {
	x.t.Helper()
	if deep <= 12 {
		if _, e := x.insert(root, key, 1); e != api.OK {
			x.t.Errorf("Insert of %d, %d deep: %d", key, deep, e)
		}
		return
	}
	if to, old, there, e := tree.Insert(x.s, root, key, 1); to != 0 || old != 0 || there || e != api.ErrPool {
		x.t.Errorf("Insert of %d, %d deep = %d, %d, %t, %d", key, deep, to, old, there, e)
	}
}

func deepRemove(x *stand, root uint64, deep int, key uint64) {
	x.t.Helper()
	to, old, there, e := tree.Remove(x.s, root, key)
	if deep > 12 {
		if to != 0 || old != 0 || there || e != api.ErrPool {
			x.t.Errorf("Remove of %d, %d deep = %d, %d, %t, %d", key, deep, to, old, there, e)
		}
		return
	}
	if want, is := x.p.pairs(root)[key]; old != want || there != is || e != api.OK {
		x.t.Errorf("Remove of %d, %d deep = %d, %d, %t, %d", key, deep, to, old, there, e)
	}
}

// Nodes that point to themselves, or to one another: ErrPool, and each call ends.
func TestRound(t *testing.T) {
	for _, nodes := range []map[uint64]api.Node{
		{3: of(false, []couple{{5, 3}})},
		{3: of(false, []couple{{5, 3}, {7, 3}})},
		{3: of(false, []couple{{5, 4}}), 4: of(false, []couple{{2, 3}, {9, 3}})},
		{3: of(false, []couple{{5, 4}, {6, 5}}), 4: of(false, []couple{{2, 5}}), 5: of(false, []couple{{1, 3}})},
	} {
		for _, way := range held[:2] {
			x := anew(t, 64, back, 8)
			for range 4 {
				x.data()
			}
			for at, n := range nodes {
				x.s.Save(at, n)
				for range len(nodes) {
					x.inc(at) // so that no block is counted too seldom to be shadowed
				}
			}
			way.do(x, 3)
			for _, key := range []uint64{0, 5, 8, greatest} {
				if val, there, e := tree.Lookup(x.s, 3, key); val != 0 || there || e != api.ErrPool {
					t.Errorf("Lookup = %d, %t, %d", val, there, e)
				}
				if to, old, there, e := tree.Insert(x.s, 3, key, 1); to != 0 || old != 0 || there || e != api.ErrPool {
					t.Errorf("Insert = %d, %d, %t, %d", to, old, there, e)
				}
				if to, old, there, e := tree.Remove(x.s, 3, key); to != 0 || old != 0 || there || e != api.ErrPool {
					t.Errorf("Remove = %d, %d, %t, %d", to, old, there, e)
				}
			}
		}
	}
}

// P11.4: an inner root of one pair goes, whatever came of its child.
func TestRootOfOnePair(t *testing.T) {
	x := anew(t, 64, back, 8)
	root := x.chain(2, 10, 20, 30, 40, 50)
	to, old, there, e := tree.Remove(x.s, root, 20)
	if to != x.p.nodes[root].Vals[0] || old != 2 || !there || e != api.OK {
		t.Fatalf("Remove = %d, %d, %t, %d", to, old, there, e)
	}
	if x.r.Count(int(root)) != 0 || x.r.Count(int(to)) != 1 {
		t.Errorf("the root is counted %d times, its child %d times", x.r.Count(int(root)), x.r.Count(int(to)))
	}
	x.holds(to, api.Node{Leaf: true, Keys: []uint64{10, 30, 40, 50}, Vals: []uint64{1, 3, 4, 5}})
}

// P11.4: a root of one pair that is a leaf, and one of its own that is not, are counted once less alone: who holds them has them.
func TestRootThatIsHeld(t *testing.T) {
	x := anew(t, 64, back, 8)
	val := x.data()
	root := x.create(leaf(val, 5))
	x.inc(root)
	if to := take(x, root, 5); to != 0 {
		t.Fatalf("the root is %d", to)
	}
	x.has(root, map[uint64]uint64{5: val}, 4, 5, 6)
	x.counted(back, []uint64{root})
}

// thing: what stands on a stand: counts, and of all that is counted the bytes.
func thing(x *stand) string {
	all := string(x.r.Counts())
	for at := range x.r.Counts() {
		if x.r.Count(at) > 0 {
			b, _ := x.c.Get(at)
			all += string(b)
		}
	}
	return all
}

// Behind ErrArg that a layer tells on the way the counts are what they were, and what they tell of stands: a value that is no block of the Refs is to be counted, or what comes of a tree that is not right is no node.
func TestErrArgOnTheWay(t *testing.T) {
	const none = 5000
	for _, y := range []struct {
		what  string
		build func(x *stand) uint64
		call  func(x *stand, root uint64) (uint64, uint64, bool, api.Errno)
	}{
		{"a leaf that is held, with a value that is no block", func(x *stand) uint64 {
			l := []couple{{10, x.create(leaf(1, 10, 20, 30, 40))}, {50, x.create(leaf(none, 50, 60, 70, 80))}}
			x.inc(l[1].val)
			return x.create(of(false, l))
		}, func(x *stand, root uint64) (uint64, uint64, bool, api.Errno) { return tree.Insert(x.s, root, 55, 1) }},
		{"likewise, of a neighbour", func(x *stand) uint64 {
			l := []couple{{10, x.create(leaf(1, 10, 20, 30, 40))}, {50, x.create(leaf(none, 50, 60, 70, 80))}}
			x.inc(l[1].val)
			return x.create(of(false, l))
		}, func(x *stand, root uint64) (uint64, uint64, bool, api.Errno) { return tree.Remove(x.s, root, 10) }},
		{"a child that can be no block", func(x *stand) uint64 {
			return x.create(of(false, []couple{{10, last + 1}, {50, 1<<32 + 2}}))
		}, func(x *stand, root uint64) (uint64, uint64, bool, api.Errno) { return tree.Insert(x.s, root, 55, 1) }},
		{"keys that come not to rise when something is taken out", func(x *stand) uint64 {
			l := []couple{{10, x.create(leaf(1, 10, 40, 50, 60, 70))}, {30, x.create(leaf(1, 30, 31, 32, 33))}}
			return x.create(of(false, l))
		}, func(x *stand, root uint64) (uint64, uint64, bool, api.Errno) { return tree.Remove(x.s, root, 10) }},
		{"a leaf without pairs that is no root", func(x *stand) uint64 {
			return x.create(of(false, []couple{{10, x.create(leaf(1, 10))}}))
		}, func(x *stand, root uint64) (uint64, uint64, bool, api.Errno) { return tree.Remove(x.s, root, 10) }},
		{"a split whose keys do not rise", func(x *stand) uint64 {
			l := []couple{{10, x.create(leaf(1, 40, 50, 60, 70, 80, 90, 91, 92))}, {45, x.create(leaf(1, 45, 46, 47, 48))}}
			return x.create(of(false, l))
		}, func(x *stand, root uint64) (uint64, uint64, bool, api.Errno) { return tree.Insert(x.s, root, 11, 1) }},
	} {
		for _, way := range held[:2] {
			x := anew(t, 64, back, 8)
			root := y.build(x)
			way.do(x, root)
			ahead := thing(x)
			if to, old, there, e := y.call(x, root); to != 0 || old != 0 || there || e != api.ErrArg {
				t.Errorf("%s, %s: %d, %d, %t, %d", way.name, y.what, to, old, there, e)
			}
			if thing(x) != ahead {
				t.Errorf("%s, %s: something has changed", way.name, y.what)
			}
		}
	}
}

// wild: a stand in whose blocks stand nodes of any kind that point anywhere, counted anyhow.
func wild(t *testing.T, seed uint64) *stand {
	t.Helper()
	g := numbers(1000 + seed)
	blocks := 6 + g.IntN(40)
	x := anew(t, blocks, 1, 1+g.IntN(blocks))
	for x.r.Free() > 1+g.IntN(3) {
		x.data()
	}
	for at := range blocks {
		for range g.IntN(3) {
			if x.r.Count(at) > 0 {
				x.inc(uint64(at))
			}
		}
		if at > 0 && x.r.Count(at) > 0 && g.IntN(6) == 0 {
			for x.r.Count(at) > 0 {
				x.dec(uint64(at))
			}
		}
		if g.IntN(20) == 0 {
			continue // noughts
		}
		n := api.Node{Leaf: g.IntN(3) == 0}
		key := g.Uint64N(4)
		for range 1 + g.IntN(api.MaxKeys) {
			val := 1 + g.Uint64N(uint64(blocks))
			if g.IntN(60) == 0 {
				val = beyond()[g.IntN(len(beyond()))]
			}
			n.Keys, n.Vals = append(n.Keys, key), append(n.Vals, val)
			key += 1 + g.Uint64N(4)
		}
		if e := x.s.Save(uint64(at), n); e != api.OK {
			t.Fatal("Save:", e)
		}
	}
	if g.IntN(2) == 0 {
		x.commit()
	}
	return x
}

// R1, R2: whatever stands in the blocks, each call ends, panics not, tells nothing beside an error, and changes nothing that is counted behind ErrArg.
func TestWild(t *testing.T) {
	told := map[api.Errno]int{}
	for seed := range uint64(4000) {
		x := wild(t, seed)
		g := numbers(seed)
		for range 4 {
			root, key := g.Uint64N(uint64(len(x.r.Counts())+1)), g.Uint64N(30)
			ahead := thing(x)
			var to, old uint64
			var there bool
			var e api.Errno
			switch g.IntN(4) {
			case 0:
				to, old, there, e = tree.Insert(x.s, root, key, 1+g.Uint64N(5))
			case 1, 2:
				to, old, there, e = tree.Remove(x.s, root, key)
			case 3:
				old, there, e = tree.Lookup(x.s, root, key)
			}
			told[e]++
			if e != api.OK && (to != 0 || old != 0 || there) {
				t.Fatalf("seed %d: beside the error %d: %d, %d, %t", seed, e, to, old, there)
			}
			if e == api.ErrArg && thing(x) != ahead {
				t.Fatalf("seed %d: behind ErrArg something has changed", seed)
			}
		}
	}
	for _, e := range []api.Errno{api.OK, api.ErrArg, api.ErrNone, api.ErrFull, api.ErrPool, api.ErrSum} {
		if told[e] == 0 {
			t.Errorf("the error %d was not met: %v", e, told)
		}
	}
}

// R1: Shadow, whatever stands in the blocks: the node that is told stands where it is told.
func TestWildShadow(t *testing.T) {
	for seed := range uint64(1000) {
		x := wild(t, seed)
		for at := range uint64(len(x.r.Counts())) {
			n, e := x.s.Load(at)
			to, got, f := x.s.Shadow(at)
			if e != api.OK && f != e || f != api.OK && (to != 0 || len(got.Keys) > 0 || got.Leaf) {
				t.Fatalf("Shadow of %d = %d, %v, %d, where Load tells %d", at, to, got, f, e)
			}
			if f != api.OK {
				continue
			}
			if there, e := x.s.Load(to); e != api.OK || !node.Same(there, n) || !node.Same(got, n) || !slices.Equal(got.Vals, n.Vals) {
				t.Fatalf("Shadow of %d = %d, %v; there stands %v", at, to, got, there)
			}
		}
	}
}
