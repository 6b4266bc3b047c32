package share_test

import (
	"fmt"
	"slices"
	"testing"

	"cistern/api"
	"cistern/share"
)

// P13.1: Clone counts the root once more, and does nothing else, whatever stands there: nothing is loaded.
func TestClone(t *testing.T) {
	overAll(t, func(x *stand, root uint64) {
		if root == 0 {
			return
		}
		want := x.r.Copy()
		bytes := x.bytes()
		x = x.copied(64)
		for range 3 {
			want.Inc(int(root))
			x.clone(root)
			if !slices.Equal(x.r.Counts(), want.Counts()) || x.r.Fresh(int(root)) != want.Fresh(int(root)) {
				t.Fatalf("behind Clone of %d the counts are\n%v, want\n%v", root, x.r.Counts(), want.Counts())
			}
		}
		if x.c.Held() != 0 || x.bytes() != bytes {
			t.Error("Clone has loaded or changed blocks")
		}
	})
}

// P13.1: of the empty tree nothing is done by Clone and Drop.
func TestEmptyTree(t *testing.T) {
	for _, fills := range []shape{{}, {{4, 4}}} {
		x := anew(t, 32, 32)
		x.built(fills)
		x.stays("Clone or Drop of 0", func() {
			x.clone(0)
			x.drop(0)
		})
	}
}

// dropped: what the chapter's words make of Drop, on the stand's Refs.
func (x *stand) dropped(at uint64) {
	x.t.Helper()
	gone, e := x.r.Dec(int(at))
	x.ok("Dec", e)
	if !gone {
		return
	}
	for n, i := x.node(at), 0; i < len(n.Vals); i++ {
		if n.Leaf {
			_, e := x.r.Dec(int(n.Vals[i]))
			x.ok("Dec", e)
		} else {
			x.dropped(n.Vals[i])
		}
	}
}

// as: that Drop of a root leaves what is plainly dropped on a stand that is the same, and no block's bytes change.
func (x *stand) as(root uint64) {
	x.t.Helper()
	y := x.copied(64)
	if root != 0 {
		y.dropped(root)
	}
	bytes := x.bytes()
	x.drop(root)
	if x.seen() != y.seen() {
		x.t.Fatalf("Drop of %d leaves\n%v, want\n%v", root, x.r.Counts(), y.r.Counts())
	}
	if x.bytes() != bytes || len(x.c.Dirty()) > 0 {
		x.t.Fatal("Drop has changed blocks")
	}
}

// P13.1, P13.4: a tree whose nodes nobody else has: behind Drop no block is pointed to; those that are fresh are free at once, those of the commit behind the next one.
func TestDrop(t *testing.T) {
	overAll(t, func(x *stand, root uint64) {
		x.counted(root)
		committed := root != 0 && !x.r.Fresh(int(root))
		free := x.r.Free()
		x.as(root)
		x.counted()
		if committed && x.r.Free() != free {
			t.Error("a block of the commit is free ahead of the next one")
		}
		x.commit()
		if got := x.r.Free(); got != 192-back {
			t.Errorf("behind Drop and Commit %d blocks are free", got)
		}
	})
}

// P13.1, P13.4: a root that is held so often, and let go as often: but for the last time it is counted once less alone.
func TestDropOfHeld(t *testing.T) {
	overAll(t, func(x *stand, root uint64) {
		if root == 0 {
			return
		}
		roots := []uint64{root}
		for range 3 {
			x.clone(root)
			roots = append(roots, root)
			x.counted(roots...)
		}
		for range 4 {
			roots = roots[1:]
			ahead := x.counts()
			x.as(root)
			x.counted(roots...)
			if ahead[root]--; len(roots) > 0 && !slices.Equal(x.counts(), ahead) {
				t.Fatal("Drop of a root that is held has counted more than the root once less")
			}
		}
	})
}

// P13.1, P13.4: a tree one part of which others hold, whichever: that part stays, all else goes.
func TestDropOfPartHeld(t *testing.T) {
	for _, fills := range shapes() {
		x := anew(t, 192, 192)
		root := x.built(fills)
		for part := range x.blocks(root) {
			y := x.copied(64)
			y.inc(part)
			pairs := y.listed(part)
			y.as(root)
			y.counted(part)
			if got := y.listed(part); fmt.Sprint(got) != fmt.Sprint(pairs) {
				t.Fatalf("the part at %d has %v, want %v", part, got, pairs)
			}
			y.as(part)
			y.counted()
		}
	}
}

// P13.1, P13.4: a tree of whose nodes others hold none, some or all, in each row of what is let go.
func TestDropOfMuchHeld(t *testing.T) {
	for seed := range uint64(60) {
		g := numbers(seed)
		x := anew(t, 192, 32)
		root := x.built(shape{{4, 5, 4}, {4, 4, 6, 4}})
		held := []uint64{root}
		for _, at := range sorted(x.blocks(root)) {
			for range g.IntN(3) * g.IntN(2) {
				x.inc(at)
				held = append(held, at)
			}
		}
		g.Shuffle(len(held), func(i, j int) { held[i], held[j] = held[j], held[i] })
		for i, at := range held {
			x.as(at)
			x.counted(held[i+1:]...)
		}
	}
}

// P13.1: a value that others hold, too, or that two keys have, is counted once less for each of the keys.
func TestDropOfValues(t *testing.T) {
	x := anew(t, 32, 8)
	one, two, three := x.data(), x.data(), x.data()
	x.inc(one)
	x.inc(one) // by two keys of one leaf, and one of another
	x.inc(two) // by one key, and another one's
	a := x.create(true, couple{1, one}, couple{2, one}, couple{3, two}, couple{4, three})
	b := x.create(true, couple{5, one})
	root := x.create(false, a, b).val
	x.as(root)
	want := make([]int, 32)
	want[two] = 1
	if !slices.Equal(x.counts(), want) {
		t.Errorf("the counts are %v, want %v", x.counts(), want)
	}
}

// P13.1: what is still pointed to is not loaded: what stands there is not asked.
func TestDropLoadsNotWhatIsHeld(t *testing.T) {
	x := anew(t, 64, 64)
	root := x.built(shape{{4, 4}, {4, 4}})
	n := x.node(root)
	x.inc(n.Vals[0])
	second := x.node(n.Vals[1]).Vals
	x.inc(second[1])
	x.broken(n.Vals[0], api.ErrSum)
	x.broken(second[1], api.ErrKind)
	x.drop(root)
	for at, want := range map[uint64]int{root: 0, n.Vals[0]: 1, n.Vals[1]: 0, second[0]: 0, second[1]: 1} {
		if x.r.Count(int(at)) != want {
			t.Errorf("the block %d is counted %d times, want %d", at, x.r.Count(int(at)), want)
		}
	}
}

// P13.2: of no roots, and of the empty tree, however often: no block is pointed to; there is a number for each block.
func TestReachOfNone(t *testing.T) {
	for _, blocks := range []int{1 + back, 64, api.MaxBlocks} {
		x := anew(t, blocks, 8)
		for _, roots := range [][]uint64{nil, {}, {0}, {0, 0, 0}} {
			got, e := share.Reach(x.s, x.r, roots)
			if e != api.OK || !slices.Equal(got, make([]int, blocks)) {
				t.Errorf("Reach of %v = %v, %d", roots, got, e)
			}
		}
	}
}

// reach: that Reach tells of these roots what the chapter's words make of them, changes nothing, and leaves the list as it is.
func (x *stand) reach(roots ...uint64) {
	x.t.Helper()
	want := x.pointed(roots...)
	list := slices.Clone(roots)
	x.stays("Reach", func() {
		x.t.Helper()
		got, e := share.Reach(x.s, x.r, list)
		if e != api.OK || !slices.Equal(got, want) {
			x.t.Fatalf("Reach of %v =\n%v, %d, want\n%v", roots, got, e, want)
		}
	})
	if !slices.Equal(list, roots) {
		x.t.Error("Reach has changed the list of roots")
	}
}

// P13.2: one root, one that stands there more than once, 0 beside it; what is counted is not asked.
func TestReach(t *testing.T) {
	overAll(t, func(x *stand, root uint64) {
		x.reach(root)
		x.reach(root, root)
		x.reach(0, root, 0, root, root, 0)
		if root != 0 {
			x.clone(root)
			x.reach(root)
			x.drop(root)
			x.drop(root)
			x.reach(root)
		}
	})
}

// P13.2: roots that stand within another one's tree: each node is taken once, whatever comes first.
func TestReachOfParts(t *testing.T) {
	x := anew(t, 192, 64)
	root := x.built(shape{{4, 5, 4}, {4, 4, 6, 4}})
	parts := sorted(x.blocks(root))
	for _, part := range parts {
		x.reach(part)
		x.reach(root, part)
		x.reach(part, root)
		x.reach(part, root, part, part)
		for _, other := range parts {
			x.reach(part, other)
		}
	}
	x.reach(parts...)
	slices.Reverse(parts)
	x.reach(parts...)
}

// P13.2: trees that share nodes; a value that two keys have, and one that is a root as well.
func TestReachOfShared(t *testing.T) {
	x := anew(t, 192, 64)
	a := x.built(shape{{4, 5, 4}, {4, 4, 6, 4}})
	x.clone(a)
	b := x.insert(a, 75, x.data())
	x.clone(b)
	c := x.remove(b, 250)
	val := x.data()
	x.inc(val)
	x.inc(val)
	c = x.insert(x.insert(x.insert(c, 1, val), 500, val), 100, val)
	for _, roots := range [][]uint64{{a}, {b}, {c}, {a, b}, {b, a}, {a, b, c}, {c, a, c, b}} {
		x.reach(roots...)
	}
	x.counted(a, b, c)
	root := x.create(true, couple{5, a}, couple{6, a}).val
	x.reach(root)
	x.reach(root, a)
	x.reach(a, root)
}

// R3: what Reach answers is new memory.
func TestReachAnswersNewMemory(t *testing.T) {
	x := anew(t, 64, 8)
	root := x.built(shape{{4, 4}})
	one, _ := share.Reach(x.s, x.r, []uint64{root})
	for i := range one {
		one[i] = 77
	}
	x.reach(root)
}

// P13.4: rows of Clone, Drop, Insert and Remove over trees that share much, with commits among them: the counts are what Reach tells of the roots that are held; each tree has what it had; Diff tells what sets two of them apart.
func TestRows(t *testing.T) {
	for seed := range uint64(24) {
		t.Run(fmt.Sprint(seed), func(t *testing.T) {
			t.Parallel()
			x := anew(t, 900, []int{1, 3, 40, 1024}[seed%4])
			w := &row{stand: x, g: numbers(100 + seed), keys: []uint64{12, 60, 200, 1 << 20}[seed/4%4]}
			for range 500 {
				w.step()
			}
			for len(w.trees) > 0 {
				w.away(w.g.IntN(len(w.trees)))
			}
			x.commit()
			if free := x.r.Free(); free != 900-back {
				t.Errorf("behind all of it %d blocks are free", free)
			}
		})
	}
}

// row: trees that are held, and what each of them has.
type row struct {
	*stand
	g interface {
		IntN(n int) int
		Uint64N(n uint64) uint64
	}
	keys  uint64
	trees []held
}

type held struct {
	root  uint64
	pairs map[uint64]uint64
}

// roots: those that are held.
func (w *row) roots() []uint64 {
	var l []uint64
	for _, h := range w.trees {
		l = append(l, h.root)
	}
	return l
}

// away: a tree is let go.
func (w *row) away(i int) {
	w.t.Helper()
	root := w.trees[i].root
	w.trees = slices.Delete(w.trees, i, i+1)
	w.as(root)
	w.counted(w.roots()...)
}

// step: something is done with one of the trees; all is right behind it.
func (w *row) step() {
	w.t.Helper()
	if w.r.Free() < 60 {
		w.away(w.g.IntN(len(w.trees)))
		w.commit()
	}
	if len(w.trees) == 0 || w.g.IntN(40) == 0 {
		w.trees = append(w.trees, held{0, map[uint64]uint64{}})
	}
	i := w.g.IntN(len(w.trees))
	h := &w.trees[i]
	switch n := w.g.IntN(20); {
	case n == 0:
		w.commit()
	case n == 1 && len(w.trees) > 3:
		w.away(i)
	case n <= 3 && len(w.trees) < 8:
		w.clone(h.root)
		w.trees = append(w.trees, held{h.root, copyOf(h.pairs)})
	case n < 14:
		w.put(h)
	default:
		w.take(h)
	}
	w.counted(w.roots()...)
	i, j := w.g.IntN(len(w.trees)+1), w.g.IntN(len(w.trees)+1)
	w.apart(w.held(i), w.held(j))
}

// held: that tree, or the empty one behind the last.
func (w *row) held(i int) held {
	if i == len(w.trees) {
		return held{}
	}
	return w.trees[i]
}

// put: keys get values, some of which another key has, too.
func (w *row) put(h *held) {
	w.t.Helper()
	for range 1 + w.g.IntN(4) {
		key := w.g.Uint64N(w.keys)
		val, there := h.pairs[w.g.Uint64N(w.keys)]
		if there && w.r.Count(int(val)) < 100 {
			w.inc(val)
		} else {
			val = w.data()
		}
		h.root = w.insert(h.root, key, val)
		h.pairs[key] = val
	}
}

// take: keys are taken out, if they are there.
func (w *row) take(h *held) {
	w.t.Helper()
	keys := sorted(h.pairs)
	for range 1 + w.g.IntN(3) {
		key := w.g.Uint64N(w.keys)
		if len(keys) > 0 && w.g.IntN(3) > 0 {
			key = keys[w.g.IntN(len(keys))]
		}
		h.root = w.remove(h.root, key)
		delete(h.pairs, key)
	}
}

// apart: that two trees have what they should, and Diff tells it.
func (w *row) apart(a, b held) {
	w.t.Helper()
	for _, h := range []held{a, b} {
		if got := w.listed(h.root); fmt.Sprint(got) != fmt.Sprint(h.pairs) && len(got)+len(h.pairs) > 0 {
			w.t.Fatalf("the tree of %d has %v, want %v", h.root, got, h.pairs)
		}
	}
	w.diff(a.root, b.root)
}
