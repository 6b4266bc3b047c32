package stretch_test

import (
	"slices"
	"testing"

	"cistern/api"
	"cistern/stretch"
	"cistern/tree"
)

// plainly: what the chapter's words make of these pairs that are to go: the root then, or the first error.
func (x *stand) plainly(root uint64, pairs []stretch.Pair) (uint64, api.Errno) {
	for _, p := range pairs {
		to, val, there, e := tree.Remove(x.s, root, p.Key)
		if e != api.OK {
			return 0, e
		}
		if !there || val != p.Val {
			x.t.Fatalf("Remove of %d = %d, %t, want %v", p.Key, val, there, p)
		}
		if _, e := x.r.Dec(int(val)); e != api.OK {
			return 0, e
		}
		root = to
	}
	return root, api.OK
}

// cleared: that Clear does what is plainly done on a stand that is the same, counts, what is fresh and each block's bytes; where that ends by an error, that is told, and all is as ahead. The root then, and whether it was done.
func (x *stand) cleared(what string, root, from, to uint64) (uint64, bool) {
	x.t.Helper()
	pairs := x.listed(root)
	gone := between(pairs, from, to)
	y := x.copied(64)
	want, e := y.plainly(root, gone)
	if e != api.OK {
		x.refused(what, root, from, to, e)
		return 0, false
	}
	got, n, f := stretch.Clear(x.s, x.r, root, from, to)
	if got != want || n != len(gone) || f != api.OK {
		x.t.Fatalf("%s: Clear(%d, %d) = %d, %d, %d, want %d, %d", what, from, to, got, n, f, want, len(gone))
	}
	if x.state() != y.state() {
		x.t.Fatalf("%s: Clear(%d, %d) leaves\n%v\nwant\n%v", what, from, to, x.r.Counts(), y.r.Counts())
	}
	x.has(got, without(pairs, from, to))
	return got, true
}

// refused: that Clear tells that error, and nothing beside it; the counts and the tree are as ahead.
func (x *stand) refused(what string, root, from, to uint64, want api.Errno) {
	x.t.Helper()
	counts, nodes := x.counted(), x.nodes(root)
	got, n, e := stretch.Clear(x.s, x.r, root, from, to)
	if got != 0 || n != 0 || e != want {
		x.t.Fatalf("%s: Clear(%d, %d) = %d, %d, %d, want the error %d", what, from, to, got, n, e, want)
	}
	if x.counted() != counts {
		x.t.Fatalf("%s: behind the error %d the counts are\n%v, want\n%v", what, e, x.r.Counts(), []byte(counts)[:len(x.r.Counts())])
	}
	for at, b := range nodes {
		if there, e := x.c.Get(at); e != api.OK || string(there) != b {
			x.t.Fatalf("%s: behind the error %d the node at %d has changed", what, want, at)
		}
	}
}

// nodes: the bytes of a tree's nodes, by their blocks.
func (x *stand) nodes(root uint64) map[int]string {
	x.t.Helper()
	all := map[int]string{}
	var look func(at uint64)
	look = func(at uint64) {
		b, _ := x.c.Get(int(at))
		all[int(at)] = string(b)
		if n := x.node(at); !n.Leaf {
			for _, child := range n.Vals {
				look(child)
			}
		}
	}
	if root != 0 {
		look(root)
	}
	return all
}

// ways to have a tree: what is done with it ahead of a call, and which roots are held beside it then.
var held = []struct {
	name string
	do   func(x *stand, root uint64) []uint64
}{
	{"fresh", func(x *stand, root uint64) []uint64 { return nil }},
	{"committed", func(x *stand, root uint64) []uint64 {
		x.commit()
		return nil
	}},
	{"held", func(x *stand, root uint64) []uint64 {
		x.inc(root)
		return []uint64{root}
	}},
	{"held and committed", func(x *stand, root uint64) []uint64 {
		x.inc(root)
		x.commit()
		return []uint64{root}
	}},
	{"its last part held", func(x *stand, root uint64) []uint64 {
		n := x.node(root)
		if n.Leaf {
			return nil
		}
		part := n.Vals[len(n.Vals)-1]
		x.inc(part)
		return []uint64{part}
	}},
}

// inEachWay: what is done with a tree in each way to have it: the tree is right then, what is held has what it had, and each block is counted as often as it is pointed to.
func (x *stand) inEachWay(root, from, to uint64) {
	x.t.Helper()
	for i, way := range held {
		if root == 0 {
			continue
		}
		y := x.copied([]int{512, 3, 16}[i%3])
		others := way.do(y, root)
		var had [][]stretch.Pair
		for _, other := range others {
			had = append(had, y.listed(other))
		}
		got, ok := y.cleared(way.name, root, from, to)
		if !ok {
			x.t.Fatalf("%s: Clear(%d, %d) is not done", way.name, from, to)
		}
		y.right(got)
		y.pointed(append(others, got)...)
		for i, other := range others {
			y.has(other, had[i])
		}
	}
}

// P12.3, P12.5: stretches of each tree, in each way to have it: at its ends, in its midst, all of it, none of it.
func TestClear(t *testing.T) {
	overAll(t, func(x *stand, root uint64, pairs []stretch.Pair) {
		limits := ends(pairs)
		if len(pairs) > 3 {
			limits = some(limits, 8)
		}
		for i, from := range limits {
			for _, to := range limits[max(i-1, 0):] {
				x.inEachWay(root, from, to)
			}
		}
	})
}

// P12.3: stretches that begin and end between two children, at the last key of one and the first one of the next.
func TestClearBetweenChildren(t *testing.T) {
	for _, fills := range []shape{{{4, 4, 4}}, {{8, 8, 8}}, {{5, 4, 6, 4}}, {{4, 4, 4, 4}, {4, 4, 4, 4}}} {
		x := anew(t, 128, 128)
		root := x.built(fills, tens)
		at := 0
		var limits []uint64
		for _, fill := range slices.Concat(fills...) {
			limits = append(limits, tens(at), tens(at)+1)
			at += fill
			if fill == 4 {
				limits = append(limits, tens(at-1))
			}
		}
		for i, from := range limits {
			for _, to := range limits[i+1:] {
				x.inEachWay(root, from, to)
			}
		}
	}
}

// P12.3: what has nothing in the stretch stays as it is, whatever is held: the very root, none went, nothing has changed.
func TestClearOfNone(t *testing.T) {
	x := anew(t, 128, 128)
	root := x.built(shape{{4, 8, 4}, {4, 4, 4, 4}}, tens)
	for _, way := range held {
		y := x.copied(128)
		way.do(y, root)
		ahead, dirty := y.state(), y.c.Dirty()
		for _, part := range [][2]uint64{{0, 10}, {0, 0}, {11, 20}, {50, 50}, {60, 50}, {greatest, 0}, {greatest, greatest}, {321, greatest}} {
			got, n, e := stretch.Clear(y.s, y.r, root, part[0], part[1])
			if got != root || n != 0 || e != api.OK {
				t.Errorf("%s: Clear(%d, %d) = %d, %d, %d", way.name, part[0], part[1], got, n, e)
			}
		}
		if y.state() != ahead || !slices.Equal(y.c.Dirty(), dirty) {
			t.Errorf("%s: something has changed", way.name)
		}
		if y = y.copied(128); y.c.Held() != 0 {
			t.Fatal("a cache that is new holds something")
		}
		stretch.Clear(y.s, y.r, root, 311, 320)
		if held := y.c.Held(); held != 3 { // the root, and what stands beneath it up to the one leaf
			t.Errorf("%s: for nothing that goes %d nodes are loaded", way.name, held)
		}
	}
}

// P12.3: the greatest key is below none: Clear leaves it.
func TestClearLeavesTheGreatestKey(t *testing.T) {
	x := anew(t, 64, 8)
	root := x.built(shape{{4, 4}}, wide(8))
	pairs := x.listed(root)
	root, n, e := stretch.Clear(x.s, x.r, root, 0, greatest)
	if n != 7 || e != api.OK {
		t.Fatalf("Clear = %d, %d, %d", root, n, e)
	}
	x.has(root, pairs[7:])
	x.pointed(root)
}

// P12.3: a value that several keys have is counted once less for each of them.
func TestClearOfOneValue(t *testing.T) {
	for _, way := range held[:2] {
		x := anew(t, 64, 8)
		val := x.data()
		var pairs []stretch.Pair
		for i := range 6 {
			x.inc(val)
			pairs = append(pairs, stretch.Pair{Key: tens(i), Val: val})
		}
		x.dec(val)
		root := x.create(true, pairs...)
		way.do(x, root)
		root, n, e := stretch.Clear(x.s, x.r, root, 20, 50)
		if n != 3 || e != api.OK || x.r.Count(int(val)) != 3 {
			t.Fatalf("Clear = %d, %d, %d, and %d times is the value counted", root, n, e, x.r.Count(int(val)))
		}
		x.pointed(root)
		if root, n, e = stretch.Clear(x.s, x.r, root, 0, 100); root != 0 || n != 3 || e != api.OK {
			t.Fatalf("Clear = %d, %d, %d", root, n, e)
		}
		x.pointed()
	}
}

// P12.3: a tree that is cleared part by part leaves nothing: the root is 0, all blocks are free behind a commit.
func TestClearedAway(t *testing.T) {
	for step := uint64(1); step <= 7; step += 2 {
		x := anew(t, 256, 4)
		root := x.built(shape{{4, 8, 4, 6}, {4, 4, 4, 4}, {8, 8, 8, 8, 8, 8, 8, 8}}, tens)
		x.commit()
		all := len(x.listed(root))
		for from := uint64(0); from < 1100; from += 10 * step {
			to, n, e := stretch.Clear(x.s, x.r, root, from, from+10*step)
			if e != api.OK {
				t.Fatal("Clear:", e)
			}
			x.right(to)
			x.pointed(to)
			root = to
			all -= n
		}
		x.commit()
		if root != 0 || all != 0 || x.r.Free() != 256-back {
			t.Errorf("the root is %d, %d pairs are left, %d blocks are free", root, all, x.r.Free())
		}
	}
}

// P12.5: who holds the old root has what it had, and may clear it as well.
func TestClearOfHeld(t *testing.T) {
	x := anew(t, 256, 8)
	old := x.built(shape{{4, 8, 4, 6}, {4, 4, 4, 4}}, tens)
	pairs := x.listed(old)
	x.inc(old)
	root, ok := x.cleared("held", old, 50, 200)
	if !ok || root == old {
		t.Fatalf("the root is %d, the old one %d", root, old)
	}
	x.has(old, pairs)
	for _, p := range pairs {
		val, there, e := tree.Lookup(x.s, root, p.Key)
		if in := p.Key >= 50 && p.Key < 200; there == in || e != api.OK || there && val != p.Val {
			t.Fatalf("Lookup of %d behind Clear = %d, %t, %d", p.Key, val, there, e)
		}
	}
	old, ok = x.cleared("the old one", old, 0, 50)
	if !ok {
		t.Fatal("Clear of the old one is not done")
	}
	x.has(root, without(pairs, 50, 200))
	x.has(old, without(pairs, 0, 50))
	x.pointed(root, old)
}

// ErrFull: for each number of free blocks, in each way to have a tree, Clear tells what is plainly told, and behind that all is as ahead.
func TestClearWithoutRoom(t *testing.T) {
	done, refused := 0, 0
	for _, fills := range []shape{{{8}}, {{4, 4}}, {{8, 4, 8, 4}}, {{4, 4, 4, 4}, {4, 4, 4, 4}}} {
		x := anew(t, 128, 128)
		root := x.built(fills, tens)
		for _, way := range held {
			for free := range 14 {
				for _, part := range [][2]uint64{{10, 20}, {30, 60}, {75, 200}, {0, 1000}} {
					y := x.copied(8)
					way.do(y, root)
					y.full(free)
					if _, ok := y.cleared(way.name, root, part[0], part[1]); ok {
						done++
					} else {
						refused++
					}
				}
			}
		}
	}
	if done == 0 || refused == 0 {
		t.Errorf("done were %d, refused %d", done, refused)
	}
}

// ErrFull: a tree of which some nodes are fresh, and changed where they stand, and others are not: behind an error those are put back.
func TestClearWithoutRoomInPart(t *testing.T) {
	done, refused := 0, 0
	for _, fills := range []shape{{{4, 4}}, {{8, 8, 8, 8}}, {{4, 5, 4, 5, 4}}, {{4, 4, 4, 4}, {4, 4, 4, 4}}, {{5, 5, 5, 5}, {5, 5, 5, 5}}} {
		x := anew(t, 192, 192)
		root := x.built(fills, tens)
		x.commit()
		pairs := x.listed(root)
		for _, fresh := range []int{0, 5, 9, len(pairs) - 1} {
			for free := range 8 {
				y := x.copied(16)
				p := pairs[min(fresh, len(pairs)-1)]
				to, _, _, e := tree.Insert(y.s, root, p.Key, p.Val)
				if e != api.OK {
					t.Fatal("Insert:", e)
				}
				y.full(free)
				for _, part := range [][2]uint64{{0, 1000}, {40, 110}, {p.Key, 1000}} {
					z := y.copied(16)
					if _, ok := z.cleared("fresh in part", to, part[0], part[1]); ok {
						done++
					} else {
						refused++
					}
				}
			}
		}
	}
	if done == 0 || refused == 0 {
		t.Errorf("done were %d, refused %d", done, refused)
	}
}

// Refs.Dec's errors: a value that is no block of the Refs, or is not counted. Which pairs went ahead of it does not matter.
func TestClearOfNoValue(t *testing.T) {
	for _, y := range []struct {
		val  uint64
		want api.Errno
	}{
		{60, api.ErrNone}, {63, api.ErrNone}, {64, api.ErrArg}, {1024, api.ErrArg}, {1<<31 - 1, api.ErrArg},
		{1 << 31, api.ErrArg}, {1<<32 + 3, api.ErrArg}, {1 << 63, api.ErrArg}, {1<<63 + 3, api.ErrArg}, {greatest, api.ErrArg},
	} {
		for at := range 8 {
			for _, way := range held[:2] {
				x := anew(t, 64, 8)
				root := x.built(shape{{4, 4}}, tens)
				pairs := x.listed(root)
				pairs[at].Val = y.val
				n := x.node(root)
				for i, leaf := range n.Vals {
					x.save(leaf, true, pairs[i*4:i*4+4]...)
				}
				way.do(x, root)
				x.refused(way.name, root, 0, 1000, y.want)
				x.refused(way.name, root, pairs[at].Key, pairs[at].Key+1, y.want)
				if at > 0 {
					x.cleared(way.name, root, 0, pairs[at].Key)
				}
			}
		}
	}
}

// tree.Remove's errors: a value of a leaf that is held, and can't be counted more often: ErrFull.
func TestClearOfCountedTooOften(t *testing.T) {
	x := anew(t, 64, 8)
	root := x.built(shape{{4, 4}}, tens)
	val := x.listed(root)[6].Val
	for range 254 {
		x.inc(val)
	}
	x.inc(root)
	x.refused("held", root, 0, 1000, api.ErrFull)
	x.refused("held", root, 50, 51, api.ErrFull)
	x.dec(val)
	x.cleared("held", root, 50, 51)
}

// P12.3 to P12.5: long rows of Inserts and Clears, with trees that are held, and commits, whatever the cache's room.
func TestRows(t *testing.T) {
	for seed := range uint64(12) {
		g := numbers(seed)
		room := []int{1, 2, 3, 8, 64, 512}[seed%6]
		x := anew(t, 512, room)
		span := []uint64{20, 90, 200}[seed%3]
		step := greatest / span
		roots := []uint64{0, 0}
		has := []map[uint64]uint64{{}, {}}
		for range 120 {
			i := g.IntN(2)
			switch {
			case g.IntN(9) == 0: // the one is let go, and the other one held in its place
				roots[i], _, _ = stretch.Clear(x.s, x.r, roots[i], 0, greatest)
				if roots[i] != 0 {
					t.Fatalf("seed %d: what is left is %d", seed, roots[i])
				}
				if roots[1-i] != 0 {
					x.inc(roots[1-i])
				}
				roots[i], has[i] = roots[1-i], kept(has[1-i], 0, 0)
			case g.IntN(3) == 0:
				from, to := g.Uint64N(span)*step, g.Uint64N(span)*step
				if g.IntN(3) > 0 {
					to = from + (1+g.Uint64N(4))*step
				}
				got, n, e := stretch.Clear(x.s, x.r, roots[i], from, to)
				rest := kept(has[i], from, to)
				if n != len(has[i])-len(rest) || e != api.OK {
					t.Fatalf("seed %d: Clear(%d, %d) = %d, %d, %d", seed, from, to, got, n, e)
				}
				roots[i], has[i] = got, rest
			case g.IntN(20) == 0:
				x.commit()
			default:
				for range 3 {
					key, val := g.Uint64N(span)*step, x.data()
					to, old, there, e := tree.Insert(x.s, roots[i], key, val)
					if e != api.OK {
						t.Fatalf("seed %d: Insert: %d", seed, e)
					}
					if there {
						x.dec(old)
					}
					roots[i], has[i][key] = to, val
				}
			}
			for j, root := range roots {
				x.right(root)
				x.has(root, rising(has[j]))
			}
			x.pointed(roots...)
		}
	}
}

// kept: a copy of what is not from from on and below to.
func kept(pairs map[uint64]uint64, from, to uint64) map[uint64]uint64 {
	rest := map[uint64]uint64{}
	for key, val := range pairs {
		if key < from || key >= to {
			rest[key] = val
		}
	}
	return rest
}

// rising: these pairs, by their keys.
func rising(pairs map[uint64]uint64) []stretch.Pair {
	var l []stretch.Pair
	for key, val := range pairs {
		l = append(l, stretch.Pair{Key: key, Val: val})
	}
	slices.SortFunc(l, func(a, b stretch.Pair) int {
		if a.Key < b.Key {
			return -1
		}
		return 1
	})
	return l
}
