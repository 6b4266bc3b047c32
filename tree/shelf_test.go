package tree_test

import (
	"fmt"
	"slices"
	"testing"

	"cistern/api"
	"cistern/cache"
	"cistern/disk"
	"cistern/node"
	"cistern/refs"
	"cistern/stamp"
	"cistern/tree"
)

// leaf: a leaf of these keys, whose values are these blocks, one behind the other.
func leaf(val uint64, keys ...uint64) api.Node {
	n := api.Node{Leaf: true}
	for i, key := range keys {
		n.Keys = append(n.Keys, key)
		n.Vals = append(n.Vals, val+uint64(i))
	}
	return n
}

// bad: nodes that may not be.
func bad() []api.Node {
	return []api.Node{
		{}, {Leaf: true},
		{Keys: []uint64{1}}, {Vals: []uint64{1}},
		leaf(0, 5), leaf(1, 5, 5), leaf(1, 5, 4), leaf(1, 0, 1, 2, 3, 4, 5, 6, 7, 8),
		{Leaf: true, Keys: []uint64{1, 2}, Vals: []uint64{3}},
		{Leaf: true, Keys: []uint64{1}, Vals: []uint64{3, 4}},
		{Keys: []uint64{1, 2}, Vals: []uint64{3, 0}},
	}
}

// good: nodes that may be, of one pair and of eight, of both kinds, with both ends of keys and values.
func good() []api.Node {
	l := []api.Node{
		leaf(7, 5), leaf(1, 0), leaf(greatest, greatest), leaf(100, 1, 2, 3, 4, 5, 6, 7, 8),
		{Leaf: true, Keys: []uint64{0, 1 << 63, greatest}, Vals: []uint64{greatest, 1 << 32, 1}},
	}
	for _, n := range l {
		n.Leaf = false
		l = append(l, n)
	}
	return l
}

// beyond: blocks that are none, as they are above what is asked for.
func beyond() []uint64 {
	return []uint64{last + 1, last + 2, 1<<32 - 1, 1 << 32, 1<<32 + 1, 1<<32 + 5, 1<<63 - 1, 1 << 63, 1<<63 + 5, greatest - 1, greatest}
}

// state: all that is seen of Refs and of a cache: counts, what is fresh, what is free, and each block's bytes.
func state(r *refs.Refs, c *cache.Cache) string {
	all := fmt.Sprint(r.Counts(), r.Free())
	for at := range r.Counts() {
		b, e := c.Get(at)
		all += fmt.Sprint(r.Fresh(at), b, e)
	}
	return all
}

// stays: that what is done changes nothing that is seen, what is dirty neither.
func (x *stand) stays(what string, do func()) {
	x.t.Helper()
	ahead, dirty := state(x.r, x.c), x.c.Dirty()
	do()
	if state(x.r, x.c) != ahead || !slices.Equal(x.c.Dirty(), dirty) {
		x.t.Fatalf("%s has changed something", what)
	}
}

// P11.1: New.
func TestNew(t *testing.T) {
	x := anew(t, 8, 1, 8)
	if tree.New(nil, x.c) != nil || tree.New(x.r, nil) != nil || tree.New(nil, nil) != nil {
		t.Error("New of nil is not nil")
	}
	one, two := tree.New(x.r, x.c), tree.New(x.r, x.c)
	at, e := one.Make(leaf(9, 5))
	if n, f := two.Load(at); e != api.OK || f != api.OK || !node.Same(n, leaf(9, 5)) {
		t.Error("what one shelf made, another one on the same has not:", e, n, f)
	}
}

// P11.1 and all others: ErrNil goes ahead of all, of a shelf that New did not make.
func TestNoShelf(t *testing.T) {
	for _, s := range []*tree.Shelf{nil, {}, new(tree.Shelf)} {
		for _, at := range []uint64{0, 1, last, last + 1, greatest} {
			for _, n := range append(good(), bad()...) {
				if to, e := s.Make(n); to != 0 || e != api.ErrNil {
					t.Error("Make:", to, e)
				}
				if e := s.Save(at, n); e != api.ErrNil {
					t.Error("Save:", e)
				}
			}
			if n, e := s.Load(at); !node.Same(n, api.Node{}) || e != api.ErrNil {
				t.Error("Load:", n, e)
			}
			if to, n, e := s.Shadow(at); to != 0 || !node.Same(n, api.Node{}) || e != api.ErrNil {
				t.Error("Shadow:", to, n, e)
			}
			for _, val := range []uint64{0, 7} {
				if root, old, there, e := tree.Insert(s, at, 5, val); root != 0 || old != 0 || there || e != api.ErrNil {
					t.Error("Insert:", root, old, there, e)
				}
			}
			if root, old, there, e := tree.Remove(s, at, 5); root != 0 || old != 0 || there || e != api.ErrNil {
				t.Error("Remove:", root, old, there, e)
			}
			if val, there, e := tree.Lookup(s, at, 5); val != 0 || there || e != api.ErrNil {
				t.Error("Lookup:", val, there, e)
			}
		}
	}
}

// A shelf on Refs, or a cache, that no New made: what these tell is told.
func TestEmptyLayers(t *testing.T) {
	x := anew(t, 8, 1, 8)
	x.commit()
	at := x.create(leaf(9, 5))
	x.commit()
	s := tree.New(new(refs.Refs), x.c)
	if _, e := s.Make(leaf(9, 5)); e != api.ErrNil {
		t.Error("Make:", e)
	}
	if to, n, e := s.Shadow(at); to != 0 || !node.Same(n, api.Node{}) || e != api.ErrNil {
		t.Error("Shadow:", to, n, e)
	}
	if root, old, there, e := tree.Insert(s, at, 5, 7); root != 0 || old != 0 || there || e != api.ErrNil {
		t.Error("Insert:", root, old, there, e)
	}
	if root, old, there, e := tree.Remove(s, at, 5); root != 0 || old != 0 || there || e != api.ErrNil {
		t.Error("Remove:", root, old, there, e)
	}
	s = tree.New(x.r, new(cache.Cache))
	if _, e := s.Load(at); e != api.ErrNil {
		t.Error("Load:", e)
	}
	if e := s.Save(at, leaf(9, 5)); e != api.ErrNil {
		t.Error("Save:", e)
	}
	if to, e := s.Make(leaf(9, 5)); to != 0 || e != api.ErrNil {
		t.Error("Make:", to, e)
	}
	if root, old, there, e := tree.Insert(s, 0, 5, 7); root != 0 || old != 0 || there || e != api.ErrNil {
		t.Error("Insert:", root, old, there, e)
	}
}

// P11.1: what is saved at a block is the node there, sealed, and is loaded again; nobody counts for it.
func TestSaveAndLoad(t *testing.T) {
	for _, n := range good() {
		for _, at := range []uint64{0, 1, 5, 7} {
			x := anew(t, 8, 3, 8)
			if e := x.s.Save(at, n); e != api.OK {
				t.Fatalf("Save(%d, %v): %d", at, n, e)
			}
			x.holds(at, n)
			if dirty := x.c.Dirty(); !slices.Equal(dirty, []int{int(at)}) || x.d.Flight() != 0 {
				t.Errorf("dirty are %v, in flight %d", dirty, x.d.Flight())
			}
			x.same()
			if e := x.s.Save(at, leaf(3, 8)); e != api.OK {
				t.Fatal("Save over it:", e)
			}
			x.holds(at, leaf(3, 8))
		}
	}
}

// P11.1: ErrArg above 2^31 - 1, ErrNone up to it where there is no such block.
func TestNoBlock(t *testing.T) {
	x := anew(t, 8, 1, 8)
	x.create(leaf(9, 5))
	none := []uint64{8, 9, 255, 256, 1024, 1 << 16, last - 1, last}
	x.stays("a call that tells an error", func() {
		for i, at := range append(beyond(), none...) {
			want := api.ErrArg
			if i >= len(beyond()) {
				want = api.ErrNone
			}
			if n, e := x.s.Load(at); !node.Same(n, api.Node{}) || e != want {
				t.Errorf("Load(%d) = %v, %d, want %d", at, n, e, want)
			}
			if e := x.s.Save(at, leaf(9, 5)); e != want {
				t.Errorf("Save(%d) = %d, want %d", at, e, want)
			}
			if to, n, e := x.s.Shadow(at); to != 0 || !node.Same(n, api.Node{}) || e != want {
				t.Errorf("Shadow(%d) = %d, %v, %d, want %d", at, to, n, e, want)
			}
			if val, there, e := tree.Lookup(x.s, at, 5); val != 0 || there || e != want {
				t.Errorf("Lookup at %d = %d, %t, %d, want %d", at, val, there, e, want)
			}
			if root, old, there, e := tree.Insert(x.s, at, 5, 9); root != 0 || old != 0 || there || e != want {
				t.Errorf("Insert at %d = %d, %d, %t, %d, want %d", at, root, old, there, e, want)
			}
			if root, old, there, e := tree.Remove(x.s, at, 5); root != 0 || old != 0 || there || e != want {
				t.Errorf("Remove at %d = %d, %d, %t, %d, want %d", at, root, old, there, e, want)
			}
		}
	})
}

// P11.1: what stands at a block, and is no node, is told by the error of stamp or node.
func TestNoNode(t *testing.T) {
	x := anew(t, 16, 1, 4)
	form, _ := node.Put(leaf(9, 5))
	turned, _ := stamp.Seal(form, 1, api.KindNode)
	turned[3] ^= 1
	elsewhere, _ := stamp.Seal(form, 3, api.KindNode)
	other, _ := stamp.Seal(form, 3, api.KindEntry)
	unlike, _ := stamp.Seal([]byte{2}, 4, api.KindNode)
	behind, _ := stamp.Seal(append(slices.Clone(form), 1), 5, api.KindNode)
	for at, y := range map[int]struct {
		b    []byte
		want api.Errno
	}{
		0: {make([]byte, api.Block), api.ErrSum},
		1: {turned, api.ErrSum},
		2: {elsewhere, api.ErrPlace},
		3: {other, api.ErrKind},
		4: {unlike, api.ErrForm},
		5: {behind, api.ErrForm},
	} {
		if e := x.c.Put(at, y.b); e != api.OK {
			t.Fatal("Put:", e)
		}
		root := uint64(at)
		x.stays("a call that tells an error", func() {
			if n, e := x.s.Load(root); !node.Same(n, api.Node{}) || e != y.want {
				t.Errorf("Load(%d) = %v, %d, want %d", at, n, e, y.want)
			}
			if to, n, e := x.s.Shadow(root); to != 0 || !node.Same(n, api.Node{}) || e != y.want {
				t.Errorf("Shadow(%d) = %d, %v, %d, want %d", at, to, n, e, y.want)
			}
			if at == 0 {
				return // the empty tree
			}
			if val, there, e := tree.Lookup(x.s, root, 5); val != 0 || there || e != y.want {
				t.Errorf("Lookup at %d = %d, %t, %d, want %d", at, val, there, e, y.want)
			}
			if to, old, there, e := tree.Insert(x.s, root, 5, 9); to != 0 || old != 0 || there || e != y.want {
				t.Errorf("Insert at %d = %d, %d, %t, %d, want %d", at, to, old, there, e, y.want)
			}
			if to, old, there, e := tree.Remove(x.s, root, 5); to != 0 || old != 0 || there || e != y.want {
				t.Errorf("Remove at %d = %d, %d, %t, %d, want %d", at, to, old, there, e, y.want)
			}
		})
	}
}

// P11.1: what is handed in is only read, and not kept; what is told is new memory.
func TestOwnMemory(t *testing.T) {
	x := anew(t, 16, 1, 8)
	x.data()
	own := leaf(1, 5)
	at := x.create(own)
	want := leaf(1, 5)
	own.Keys[0], own.Vals[0] = 6, 6
	x.p.nodes[at] = want
	x.holds(at, want)
	own = leaf(1, 8)
	if e := x.s.Save(at, own); e != api.OK || !node.Same(own, leaf(1, 8)) {
		t.Fatal("Save:", e, own)
	}
	want = leaf(1, 8)
	own.Keys[0], own.Vals[0] = 6, 6
	x.holds(at, want)
	own, _ = x.s.Load(at)
	own.Keys[0], own.Vals[0] = 6, 6
	x.holds(at, want)
	_, own, _ = x.s.Shadow(at)
	own.Keys[0], own.Vals[0] = 6, 6
	x.holds(at, want)
	x.inc(at)
	to, own, _ := x.s.Shadow(at)
	own.Keys[0], own.Vals[0] = 6, 6
	x.holds(at, want)
	x.holds(to, want)
}

// P11.1: Make takes the least free block, which is counted once then, and fresh; the node stands there.
func TestMake(t *testing.T) {
	x := anew(t, 16, 2, 16)
	x.commit()
	for i, n := range good() {
		if at := x.create(n); at != uint64(2+i) {
			t.Fatalf("Make tells %d, want %d", at, 2+i)
		}
		x.same()
	}
	x.dec(4)
	delete(x.p.nodes, 4)
	if at := x.create(leaf(3, 1)); at != 4 {
		t.Fatalf("Make tells %d, want the least free one, 4", at)
	}
	x.same()
	if dirty := x.c.Dirty(); len(dirty) != len(good()) || x.d.Flight() != 0 {
		t.Errorf("dirty are %v, in flight %d", dirty, x.d.Flight())
	}
}

// P11.1: block 0 is a block as any other.
func TestMakeAtNought(t *testing.T) {
	x := anew(t, 4, 0, 4)
	if at := x.create(leaf(3, 1)); at != 0 {
		t.Fatalf("Make tells %d, want 0", at)
	}
	x.same()
	to, n, e := x.s.Shadow(0)
	if to != 0 || !node.Same(n, leaf(3, 1)) || e != api.OK {
		t.Errorf("Shadow = %d, %v, %d", to, n, e)
	}
}

// P11.1: node.Put's ErrArg goes ahead of all that the layers tell, and nothing changes.
func TestBadNode(t *testing.T) {
	for _, blocks := range []int{2, 8} { // with no room, and with some
		for _, off := range []bool{false, true} {
			x := anew(t, blocks, 2, 4)
			ahead := state(x.r, x.c)
			if off {
				x.d.Fuse(1)
				x.d.Barrier()
			}
			for _, n := range bad() {
				if at, e := x.s.Make(n); at != 0 || e != api.ErrArg {
					t.Errorf("Make(%v) = %d, %d", n, at, e)
				}
				for _, at := range []uint64{0, 1, 5, last, last + 1} {
					if e := x.s.Save(at, n); e != api.ErrArg {
						t.Errorf("Save(%d, %v) = %d", at, n, e)
					}
				}
			}
			if dirty := x.c.Dirty(); len(dirty) != 0 {
				t.Errorf("dirty are %v", dirty)
			}
			x.d.Crash(nil)
			if state(x.r, x.c) != ahead {
				t.Error("a node that may not be has changed something")
			}
		}
	}
}

// P11.1: no room: Make, and Shadow of what does not stay.
func TestFull(t *testing.T) {
	x := anew(t, 4, 1, 4)
	one := x.create(leaf(1, 5))
	x.commit()
	two, _ := x.create(leaf(1, 6)), x.create(leaf(1, 7))
	if at, e := x.s.Make(leaf(1, 8)); at != 0 || e != api.ErrFull {
		t.Errorf("Make = %d, %d", at, e)
	}
	if to, n, e := x.s.Shadow(one); to != 0 || !node.Same(n, api.Node{}) || e != api.ErrFull {
		t.Errorf("Shadow of one that is not fresh = %d, %v, %d", to, n, e)
	}
	if to, n, e := x.s.Shadow(two); to != two || !node.Same(n, leaf(1, 6)) || e != api.OK {
		t.Errorf("Shadow of one that stays = %d, %v, %d", to, n, e)
	}
	if root, old, there, e := tree.Insert(x.s, 0, 5, 1); root != 0 || old != 0 || there || e != api.ErrFull {
		t.Errorf("Insert into the empty tree = %d, %d, %t, %d", root, old, there, e)
	}
	for _, val := range []uint64{200, greatest} { // which can't be counted: that is asked behind Alloc
		if e := x.s.Save(one, leaf(val, 5)); e != api.OK {
			t.Fatal("Save:", e)
		}
		x.inc(one)
		if to, n, e := x.s.Shadow(one); to != 0 || !node.Same(n, api.Node{}) || e != api.ErrFull {
			t.Errorf("Shadow of one with the value %d = %d, %v, %d", val, to, n, e)
		}
	}
}

// P11.1: Shadow, fresh or not, counted once, twice, and as often as may be.
func TestShadow(t *testing.T) {
	for _, fresh := range []bool{true, false} {
		for _, times := range []int{1, 2, 3, 255} {
			for _, inner := range []bool{true, false} {
				shadow(t, fresh, times, inner)
			}
		}
	}
}

// shadow: what Shadow does of a node of three values, of which the second one is counted twice.
func shadow(t *testing.T, fresh bool, times int, inner bool) {
	t.Helper()
	x := anew(t, 32, 2, 32)
	vals := []uint64{x.data(), x.data(), x.data()}
	x.inc(vals[1])
	n := api.Node{Leaf: !inner, Keys: []uint64{3, 5, 9}, Vals: []uint64{vals[2], vals[0], vals[1]}}
	at := x.create(n)
	for range times - 1 {
		x.inc(at)
	}
	if !fresh {
		x.commit()
	}
	hole := x.data() // so that the least free one is not behind all
	x.data()
	x.dec(hole)
	counts := x.r.Counts()
	want := at
	if !fresh || times > 1 {
		want = hole
		counts[hole] = 1
		counts[at]--
		if times > 1 {
			for _, val := range vals {
				counts[val]++
			}
		}
	}
	to, got, e := x.s.Shadow(at)
	if to != want || !node.Same(got, n) || e != api.OK {
		t.Fatalf("Shadow (fresh: %t, %d times) = %d, %v, %d, want %d", fresh, times, to, got, e, want)
	}
	if !slices.Equal(x.r.Counts(), counts) {
		t.Fatalf("the counts are\n%v, want\n%v", x.r.Counts(), counts)
	}
	x.holds(to, n)
	if x.r.Count(int(at)) > 0 {
		x.holds(at, n)
	}
	again, _, e := x.s.Shadow(to)
	if again != to || e != api.OK || !slices.Equal(x.r.Counts(), counts) {
		t.Fatalf("Shadow of what it told = %d, %d", again, e)
	}
}

// P11.1: Shadow of a block that is not counted: Refs.Dec tells ErrNone, but where that very block is handed out.
func TestShadowOfFree(t *testing.T) {
	x := anew(t, 8, 2, 8)
	for _, at := range []uint64{2, 4} {
		if e := x.s.Save(at, leaf(7, 5)); e != api.OK {
			t.Fatal("Save:", e)
		}
	}
	if to, n, e := x.s.Shadow(4); to != 0 || !node.Same(n, api.Node{}) || e != api.ErrNone {
		t.Errorf("Shadow(4) = %d, %v, %d", to, n, e)
	}
	x = anew(t, 8, 2, 8)
	x.s.Save(2, leaf(7, 5))
	if to, n, e := x.s.Shadow(2); to != 2 || !node.Same(n, leaf(7, 5)) || e != api.OK {
		t.Errorf("Shadow(2) = %d, %v, %d", to, n, e)
	}
}

// P11.1: a node's values are counted in order, up to the first that can't be; behind ErrArg nothing has changed.
func TestShadowCounts(t *testing.T) {
	const free, full, most = 6, 3, 255
	for _, y := range []struct {
		vals []uint64
		want api.Errno
	}{
		{[]uint64{2, 2, 2}, api.OK},
		{[]uint64{2, free}, api.ErrNone},
		{[]uint64{full, free}, api.ErrFull},
		{[]uint64{free, full}, api.ErrNone},
		{[]uint64{2, 8}, api.ErrArg},
		{[]uint64{2, last}, api.ErrArg},
		{[]uint64{2, last + 1}, api.ErrArg},
		{[]uint64{2, 1<<32 + 2}, api.ErrArg}, // not block 2
		{[]uint64{1<<63 + 2, free}, api.ErrArg},
		{[]uint64{greatest, full}, api.ErrArg},
		{[]uint64{full, greatest}, api.ErrFull},
		{[]uint64{free, greatest}, api.ErrNone},
	} {
		x := anew(t, 8, 0, 8)
		for range 4 {
			x.data()
		}
		for range most - 1 {
			x.inc(full)
		}
		n := api.Node{Leaf: true}
		for i, val := range y.vals {
			n.Keys, n.Vals = append(n.Keys, uint64(i)), append(n.Vals, val)
		}
		at := x.create(n)
		x.inc(at)
		var to uint64
		var got api.Node
		var e api.Errno
		call := func() { to, got, e = x.s.Shadow(at) }
		if y.want == api.ErrArg {
			x.stays("Shadow, which tells ErrArg,", call)
		} else {
			call()
		}
		if e != y.want || e != api.OK && (to != 0 || !node.Same(got, api.Node{})) {
			t.Errorf("Shadow of %v = %d, %v, %d, want %d", y.vals, to, got, e, y.want)
		}
		if e == api.OK && (x.r.Count(2) != 4 || to != 5) {
			t.Errorf("block 2 is counted %d times, the node stands at %d", x.r.Count(2), to)
		}
	}
}

// ErrOff, where the power is off: of each call that asks for blocks.
func TestOff(t *testing.T) {
	x := anew(t, 16, 1, 4)
	at := x.create(leaf(1, 5))
	x.commit()
	x.d.Fuse(1)
	x.d.Barrier()
	if n, e := x.s.Load(at); !node.Same(n, api.Node{}) || e != api.ErrOff {
		t.Error("Load:", n, e)
	}
	if e := x.s.Save(at, leaf(1, 5)); e != api.ErrOff {
		t.Error("Save:", e)
	}
	if to, e := x.s.Make(leaf(1, 5)); to != 0 || e != api.ErrOff {
		t.Error("Make:", to, e)
	}
	if to, n, e := x.s.Shadow(at); to != 0 || !node.Same(n, api.Node{}) || e != api.ErrOff {
		t.Error("Shadow:", to, n, e)
	}
	if val, there, e := tree.Lookup(x.s, at, 5); val != 0 || there || e != api.ErrOff {
		t.Error("Lookup:", val, there, e)
	}
	if val, there, e := tree.Lookup(x.s, 0, 5); val != 0 || there || e != api.OK {
		t.Error("Lookup in the empty tree:", val, there, e)
	}
	for _, root := range []uint64{0, at} {
		if to, old, there, e := tree.Insert(x.s, root, 5, 1); to != 0 || old != 0 || there || e != api.ErrOff {
			t.Error("Insert:", to, old, there, e)
		}
		if to, old, there, e := tree.Insert(x.s, root, 5, 0); to != 0 || old != 0 || there || e != api.ErrArg {
			t.Error("Insert of 0:", to, old, there, e)
		}
	}
	if root, old, there, e := tree.Remove(x.s, 0, 5); root != 0 || old != 0 || there || e != api.OK {
		t.Error("Remove of the empty tree:", root, old, there, e)
	}
	if root, old, there, e := tree.Remove(x.s, at, 5); root != 0 || old != 0 || there || e != api.ErrOff {
		t.Error("Remove:", root, old, there, e)
	}
}

// The power goes in any of a call's writes: ErrOff is told, or the call is done.
func TestFuse(t *testing.T) {
	for fuse := range 12 {
		d, _ := disk.New(64)
		r, _ := refs.New(kept(64, 1))
		c, _ := cache.New(d, 1)
		s := tree.New(r, c)
		root, e := uint64(0), api.OK
		for key := range uint64(40) {
			if root, _, _, e = tree.Insert(s, root, key, 1); e != api.OK {
				t.Fatal("Insert:", e)
			}
		}
		r.Commit()
		d.Fuse(fuse + 1)
		to, old, there, e := tree.Remove(s, root, 7)
		switch {
		case d.Off() && (e != api.ErrOff || to != 0 || old != 0 || there):
			t.Errorf("Remove, the power going at %d: %d, %d, %t, %d", fuse+1, to, old, there, e)
		case !d.Off() && (e != api.OK || to == 0 || old != 1 || !there):
			t.Errorf("Remove: %d, %d, %t, %d", to, old, there, e)
		}
	}
}
