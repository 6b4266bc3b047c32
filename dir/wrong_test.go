package dir_test

import (
	"fmt"
	"math/rand/v2"
	"slices"
	"testing"

	"cistern/api"
	"cistern/dir"
	"cistern/txn"
)

// all: what all calls tell of a pool, of volumes that may be and of such that may not, with whatever they tell beside an error.
func (x *stand) all(p *txn.Txn, id uint64, name string) []api.Errno {
	x.t.Helper()
	v, e := dir.ById(p, id)
	w, f := dir.ByName(p, name)
	l, g := dir.List(p)
	if e != api.OK && v != (api.Volume{}) || f != api.OK && w != (api.Volume{}) || g != api.OK && len(l) > 0 {
		x.t.Fatalf("beside an error is told: %v, %d; %v, %d; %v, %d", v, e, w, f, l, g)
	}
	u := api.Volume{Id: id, Name: name}
	return []api.Errno{e, f, g, dir.Add(p, u), dir.Set(p, u), dir.Remove(p, id)}
}

// asks: that all calls tell that one error, whatever they are asked for.
func (x *stand) asks(what string, p *txn.Txn, want api.Errno) {
	x.t.Helper()
	for _, id := range []uint64{0, 1, 2, 9, 1 << 62, greatest} {
		for _, name := range []string{"", "a", "b", "new", "A", "0123456789abcdefg"} {
			if have := x.all(p, id, name); !slices.Equal(have, slices.Repeat([]api.Errno{want}, 6)) {
				x.t.Fatalf("%s: of %d and %q the calls tell %v, want %d", what, id, name, have, want)
			}
		}
	}
}

// ErrNil ahead of all: no pool, and one that Open did not make.
func TestNoPool(t *testing.T) {
	x := &stand{t: t}
	x.asks("no pool", nil, api.ErrNil)
	x.asks("a pool that Open did not make", &txn.Txn{}, api.ErrNil)
}

// over: the pool's Commit fails; the power is there again, if it is to be.
func (x *stand) over(power bool) {
	x.t.Helper()
	x.d.Fuse(1)
	if e := x.p.Commit(); e != api.ErrOff || !x.p.Over() {
		x.t.Fatalf("Commit tells %d", e)
	}
	if power {
		x.d.Crash(nil)
	}
}

// ErrBusy next: the pool is over, whatever is asked for, and whatever stands there; nothing changes.
func TestOver(t *testing.T) {
	for _, power := range []bool{false, true} {
		for n := range 3 {
			x := anew(t, 60, 60)
			x.add([]api.Volume{volume(1, "a"), volume(2, "b")}[:n]...)
			x.over(power)
			super, counts := x.p.Super(), x.p.Refs().Counts()
			x.asks("a pool that is over", x.p, api.ErrBusy)
			if x.p.Super() != super || !slices.Equal(x.p.Refs().Counts(), counts) {
				t.Errorf("of a pool that is over %v has become %v", super, x.p.Super())
			}
		}
	}
}

// Those of the layers: without power nothing is read, and nothing put; what is told without a look at a block is told as ever.
func TestNoPower(t *testing.T) {
	x := anew(t, 60, 1)
	x.off()
	if have, want := x.all(x.p, 1, "a"), []api.Errno{api.ErrNone, api.ErrNone, api.OK, api.ErrOff, api.ErrNone, api.ErrNone}; !slices.Equal(have, want) {
		t.Errorf("of an empty directory without power the calls tell %v, want %v", have, want)
	}
	x = anew(t, 60, 60)
	x.add(volume(1, "a"), volume(2, "b"))
	x.commit()
	x.off()
	for _, id := range []uint64{1, 2, 9} {
		if have := x.all(x.p, id, "a"); !slices.Equal(have, slices.Repeat([]api.Errno{api.ErrOff}, 6)) {
			t.Errorf("without power the calls tell %v", have)
		}
	}
	if e, f := dir.Add(x.p, volume(0, "a")), dir.Set(x.p, volume(1, "")); e != api.ErrArg || f != api.ErrArg {
		t.Errorf("without power Add and Set of what may not be tell %d, %d", e, f)
	}
	x.d.Crash(nil)
	x.tells("with power", family{1: volume(1, "a"), 2: volume(2, "b")})
}

// off: the power goes; nothing is in flight then.
func (x *stand) off() {
	x.t.Helper()
	x.ok("Barrier", x.d.Barrier())
	x.d.Fuse(1)
	if e := x.d.Barrier(); e != api.ErrOff {
		x.t.Fatalf("Barrier tells %d", e)
	}
}

// Those of the layers: the power goes at each write of a change over a cache of one block; behind it all is as behind the last commit.
func TestPowerGoes(t *testing.T) {
	for _, n := range []int{0, 1, 8, 16} {
		all := some(n)
		for _, do := range deeds(all) {
			for fuse := 1; ; fuse++ {
				if fuse > 100 {
					t.Fatalf("%s writes without end", do.what)
				}
				x := anew(t, 80, 1)
				x.add(all...)
				x.commit()
				x.d.Fuse(fuse)
				e := do.call(x)
				if e == api.OK {
					break
				}
				if e != api.ErrOff {
					t.Fatalf("with a fuse of %d %s tells %d", fuse, do.what, e)
				}
				x.d.Crash(nil)
				x.open(1)
				x.tells("behind a crash", familyOf(all))
			}
		}
	}
}

// P16.3: a pool with no room, at each step: behind ErrFull, and an Abort, all is as ahead.
func TestNoRoom(t *testing.T) {
	for _, n := range []int{0, 1, 8, 9, 15, 16} {
		all := some(n)
		for _, do := range deeds(all) {
			for free := 0; ; free++ {
				x := anew(t, 80, 80)
				x.add(all...)
				x.commit()
				x.fill(free)
				e := do.call(x)
				if e == api.OK && free > 0 {
					break
				}
				if e != api.ErrFull || free > 6 {
					t.Fatalf("with %d free blocks %s tells %d", free, do.what, e)
				}
				x.ok("Abort", x.p.Abort())
				x.tells("behind Abort", familyOf(all))
				x.counted("behind Abort")
				x.ok(do.what, do.call(x))
			}
		}
	}
}

// wild: a pool whose blocks have nodes, entries and bytes that were thrown together.
func wild(t *testing.T, r *rand.Rand) *stand {
	t.Helper()
	x := anew(t, 64, []int{1, 4, 64}[r.IntN(3)])
	x.fill(r.IntN(12))
	for at := uint64(4); at < 64; at++ {
		switch r.IntN(8) {
		case 0, 1, 2, 3:
			if e := x.p.Shelf().Save(at, wildNode(r)); e != api.OK {
				t.Fatal(e)
			}
		case 4, 5, 6:
			v := volume(1+r.Uint64N(12), fmt.Sprint("n", r.IntN(12)))
			x.seal(at, entryOf(v), []byte{api.KindEntry, api.KindEntry, api.KindNode}[r.IntN(3)])
		}
		for range r.IntN(4) {
			x.p.Refs().Inc(int(at))
		}
	}
	return x
}

// wildNode: one that may be, but hardly stands where it does.
func wildNode(r *rand.Rand) api.Node {
	n := api.Node{Leaf: r.IntN(2) == 0}
	key := r.Uint64N(6)
	for range 1 + r.IntN(api.MaxKeys) {
		n.Keys = append(n.Keys, key)
		val := 4 + r.Uint64N(60)
		if r.IntN(50) == 0 {
			val = []uint64{1, 2, 64, 1 << 31, greatest}[r.IntN(5)]
		}
		n.Vals = append(n.Vals, val)
		key += 1 + r.Uint64N(3)
	}
	return n
}

// R1, R2: of pools thrown together each call ends, and tells nothing beside an error.
func TestWild(t *testing.T) {
	r := numbers(7)
	told := map[api.Errno]int{}
	for range 2000 {
		x := wild(t, r)
		for range 6 {
			x.ok("SetDir", x.p.SetDir(uint64(4+r.IntN(60))))
			for _, e := range x.all(x.p, r.Uint64N(14), fmt.Sprint("n", r.IntN(14))) {
				told[e]++
			}
		}
	}
	for _, e := range []api.Errno{api.OK, api.ErrNone, api.ErrThere, api.ErrFull, api.ErrSum, api.ErrKind, api.ErrForm, api.ErrPool} {
		if told[e] == 0 {
			t.Errorf("no call told %d: %v", e, told)
		}
	}
}

// R1: a directory whose nodes go round, or stand too deep, is refused, or read as far as it goes.
func TestRound(t *testing.T) {
	x := anew(t, 64, 64)
	x.add(volume(3, "a"))
	root, e := x.p.Shelf().Make(api.Node{Keys: []uint64{3}, Vals: []uint64{x.p.Super().Dir}})
	x.ok("Make", e)
	x.ok("SetDir", x.p.SetDir(root))
	x.tells("one more node", family{3: volume(3, "a")})
	x.ok("Save", x.p.Shelf().Save(root, api.Node{Keys: []uint64{3}, Vals: []uint64{root}}))
	want := slices.Repeat([]api.Errno{api.ErrPool}, 6)
	if have := x.all(x.p, 3, "a"); !slices.Equal(have, want) {
		t.Errorf("of nodes that go round the calls tell %v", have)
	}
}
