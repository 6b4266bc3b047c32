package dir_test

import (
	"fmt"
	"maps"
	"reflect"
	"slices"
	"testing"

	"cistern/api"
	"cistern/dir"
	"cistern/share"
	"cistern/tree"
)

// byHand: the chapter's steps of a change, one behind the other; entry is nil, if a volume is taken out.
func (x *stand) byHand(id uint64, entry []byte) api.Errno {
	x.t.Helper()
	s, r, old := x.p.Shelf(), x.p.Refs(), x.p.Super().Dir
	if old != 0 {
		if e := share.Clone(s, r, old); e != api.OK {
			return e
		}
	}
	var root, val uint64
	var had bool
	var e api.Errno
	if entry != nil {
		at, full := r.Alloc()
		if full != api.OK {
			return full
		}
		x.seal(uint64(at), entry, api.KindEntry)
		root, val, had, e = tree.Insert(s, old, id, uint64(at))
	} else {
		root, val, had, e = tree.Remove(s, old, id)
	}
	if e != api.OK {
		return e
	}
	if had {
		if _, e := r.Dec(int(val)); e != api.OK {
			return e
		}
	}
	x.ok("SetDir", x.p.SetDir(root))
	if old != 0 {
		return share.Drop(s, r, old)
	}
	return api.OK
}

// manner: how a directory comes to stand ahead of a change; the roots that somebody else holds are told.
type manner struct {
	what string
	do   func(x *stand) []uint64
}

// clone: the directory is held by somebody else, too.
func (x *stand) clone() uint64 {
	x.t.Helper()
	root := x.p.Super().Dir
	x.ok("Clone", share.Clone(x.p.Shelf(), x.p.Refs(), root))
	return root
}

func (x *stand) commit() {
	x.t.Helper()
	x.ok("Commit", x.p.Commit())
}

var manners = []manner{
	{"fresh", func(x *stand) []uint64 { return nil }},
	{"committed", func(x *stand) []uint64 { x.commit(); return nil }},
	{"held", func(x *stand) []uint64 { return []uint64{x.clone()} }},
	{"held twice, committed", func(x *stand) []uint64 { held := []uint64{x.clone(), x.clone()}; x.commit(); return held }},
	{"held, then changed", func(x *stand) []uint64 {
		held := x.clone()
		x.again()
		return []uint64{held}
	}},
	{"committed, then changed", func(x *stand) []uint64 { x.commit(); x.again(); return nil }},
	{"a part held", func(x *stand) []uint64 {
		l := x.leaves(x.p.Super().Dir)
		if len(l) == 0 {
			return nil
		}
		x.ok("Inc", x.p.Refs().Inc(int(l[0])))
		return l[:1]
	}},
	{"its entries held", func(x *stand) []uint64 {
		n := api.Node{Leaf: true}
		l := x.entries(x.p.Super().Dir)
		for _, id := range slices.Sorted(maps.Keys(l)) {
			x.ok("Inc", x.p.Refs().Inc(int(l[id])))
			n.Keys, n.Vals = append(n.Keys, id), append(n.Vals, l[id])
		}
		return x.nodes(n)
	}},
}

// nodes: leaves that have so many pairs as a node may have.
func (x *stand) nodes(n api.Node) []uint64 {
	x.t.Helper()
	var l []uint64
	for len(n.Keys) > 0 {
		k := min(len(n.Keys), api.MaxKeys)
		at, e := x.p.Shelf().Make(api.Node{Leaf: true, Keys: n.Keys[:k], Vals: n.Vals[:k]})
		x.ok("Make", e)
		l, n.Keys, n.Vals = append(l, at), n.Keys[k:], n.Vals[k:]
	}
	return l
}

// again: the last volume, if there is one, is set once more, as it is.
func (x *stand) again() {
	x.t.Helper()
	l, e := dir.List(x.p)
	x.ok("List", e)
	if len(l) > 0 {
		x.ok("Set", dir.Set(x.p, l[len(l)-1]))
	}
}

// built: a pool of these volumes, that stands so, with so many free blocks (all that there are, if free is below 0).
func built(t *testing.T, all []api.Volume, m manner, free int) (*stand, []uint64) {
	t.Helper()
	x := anew(t, 80, 80)
	x.add(all...)
	held := m.do(x)
	if free >= 0 {
		x.fill(free)
	}
	return x, held
}

// deed: a change by a call, and by hand.
type deed struct {
	what string
	call func(x *stand) api.Errno
	hand func(x *stand) api.Errno
	does func(f family) api.Errno
}

func added(v api.Volume) deed {
	return deed{fmt.Sprint("Add ", v), func(x *stand) api.Errno { return dir.Add(x.p, v) },
		func(x *stand) api.Errno { return x.byHand(v.Id, entryOf(v)) }, func(f family) api.Errno { return f.add(v) }}
}

func set(v api.Volume) deed {
	return deed{fmt.Sprint("Set ", v), func(x *stand) api.Errno { return dir.Set(x.p, v) },
		func(x *stand) api.Errno { return x.byHand(v.Id, entryOf(v)) }, func(f family) api.Errno { return f.set(v) }}
}

func removed(id uint64) deed {
	return deed{fmt.Sprint("Remove ", id), func(x *stand) api.Errno { return dir.Remove(x.p, id) },
		func(x *stand) api.Errno { return x.byHand(id, nil) }, func(f family) api.Errno { return f.remove(id) }}
}

// deeds: changes of a directory of these volumes that may be made.
func deeds(all []api.Volume) []deed {
	var l []deed
	if len(all) < 16 {
		l = append(l, added(volume(4, "first")), added(volume(1<<50, "amid")), added(api.Volume{Id: greatestId - 9, Name: "x"}))
	}
	for i, v := range all {
		if i == 0 || i == len(all)/2 || i == len(all)-1 {
			same, other := v, v
			same.Size, same.Root, same.Fixed = 5, 6, !v.Fixed
			other.Name = "other.name"
			l = append(l, removed(v.Id), set(same), set(other))
		}
	}
	return l
}

// familyOf: these volumes.
func familyOf(all []api.Volume) family {
	f := family{}
	for _, v := range all {
		f[v.Id] = v
	}
	return f
}

// P16.3, P16.5: each change is, block by block, what the chapter's steps make, however the directory stands, and whoever holds it; and so is each error, with whatever room.
func TestChangesByHand(t *testing.T) {
	for _, n := range []int{0, 1, 4, 8, 9, 13, 16} {
		t.Run(fmt.Sprint(n), func(t *testing.T) {
			t.Parallel()
			errors := map[api.Errno]int{}
			for _, m := range manners {
				for _, do := range deeds(some(n)) {
					for _, free := range []int{-1, 0, 1, 2, 3, 5} {
						errors[compared(t, some(n), m, do, free)]++
					}
				}
			}
			if errors[api.OK] == 0 || errors[api.ErrFull] == 0 || len(errors) != 2 {
				t.Errorf("the calls told %v", errors)
			}
		})
	}
}

// compared: what a change tells, of a pool of these volumes; it is held against the change by hand.
func compared(t *testing.T, all []api.Volume, m manner, do deed, free int) api.Errno {
	t.Helper()
	x, held := built(t, all, m, free)
	y, _ := built(t, all, m, free)
	what := fmt.Sprintf("%d volumes, %s, %d free: %s", len(all), m.what, free, do.what)
	had := x.p.Free()
	e, want := do.call(x), do.hand(y)
	if e != want || e != api.OK && free < 0 {
		t.Fatalf("%s tells %d, want %d", what, e, want)
	}
	if e != api.OK {
		return e
	}
	if !reflect.DeepEqual(x.state(), y.state()) {
		t.Fatalf("%s: the pool is\n%v, want\n%v", what, x.state(), y.state())
	}
	f := familyOf(all)
	do.does(f)
	x.tells(what, f)
	if free < 0 {
		x.counted(what, held...)
	}
	if had-x.p.Free() > 6 {
		t.Fatalf("%s takes %d blocks", what, had-x.p.Free())
	}
	return e
}

// P16.3: what has the old directory has what it had.
func TestHeldStays(t *testing.T) {
	for _, n := range []int{1, 4, 8, 9, 16} {
		all := some(n)
		for _, do := range deeds(all) {
			x := anew(t, 120, 3)
			x.add(all...)
			held := x.clone()
			x.ok(do.what, do.call(x))
			x.counted(do.what, held)
			now := x.p.Super().Dir
			x.ok("SetDir", x.p.SetDir(held))
			x.tells("what is held", familyOf(all))
			x.ok("SetDir", x.p.SetDir(now))
			x.ok("Drop", share.Drop(x.p.Shelf(), x.p.Refs(), held))
			x.counted("behind Drop")
			f := familyOf(all)
			do.does(f)
			x.tells("what is held no more", f)
		}
	}
}

// P16.3: what may not be done tells so, in the order of the words, and changes nothing.
func TestRefused(t *testing.T) {
	t.Parallel()
	for _, n := range []int{0, 1, 5, 15, 16} {
		all := some(n)
		x := anew(t, 80, 80)
		x.add(all...)
		f := familyOf(all)
		ids := append(slices.Clone(edges), 7, 8, 5)
		var asked []string
		for _, v := range all {
			ids, asked = append(ids, v.Id), append(asked, v.Name)
		}
		asked = append(append(asked, names...), "new")
		for _, id := range ids {
			x.refuses(f, removed(id))
			for _, name := range asked {
				for _, size := range []uint64{0, 1 << 32, 1<<32 + 1} {
					v := api.Volume{Id: id, Name: name, Size: size}
					x.refuses(f, added(v))
					x.refuses(f, set(v))
				}
			}
		}
	}
}

// refuses: that a change is refused as the words say; one that is not refused is not made.
func (x *stand) refuses(f family, do deed) {
	x.t.Helper()
	g := family{}
	for id, v := range f {
		g[id] = v
	}
	want := do.does(g)
	if want == api.OK {
		return
	}
	x.stays(do.what, func() {
		if e := do.call(x); e != want {
			x.t.Fatalf("%s of %d volumes tells %d, want %d", do.what, len(f), e, want)
		}
	})
}

// P16.3: so many volumes, and one more; when one goes, there is room for one.
func TestMostVolumes(t *testing.T) {
	x := anew(t, 80, 8)
	f := family{}
	for i := range uint64(api.MaxVolumes) {
		v := volume(i+1, fmt.Sprint("v", i))
		x.add(v)
		f[v.Id] = v
	}
	for range 3 {
		if e := dir.Add(x.p, volume(77, "one.more")); e != api.ErrFull {
			t.Errorf("Add tells %d", e)
		}
	}
	if e := dir.Add(x.p, volume(1, "one.more")); e != api.ErrThere {
		t.Errorf("Add of an Id that is there tells %d", e)
	}
	if e := dir.Add(x.p, volume(77, "v15")); e != api.ErrThere {
		t.Errorf("Add of a Name that is there tells %d", e)
	}
	if e := dir.Add(x.p, volume(77, "ONE")); e != api.ErrArg {
		t.Errorf("Add of a Name that may not be tells %d", e)
	}
	for id := uint64(1); id <= api.MaxVolumes; id++ {
		v := volume(id, "set")
		x.ok("Set", dir.Set(x.p, v))
		f[id] = v
		x.tells("Set", f)
		x.ok("Remove", dir.Remove(x.p, id))
		x.add(volume(id+100, fmt.Sprint("w", id)))
		delete(f, id)
		f[id+100] = volume(id+100, fmt.Sprint("w", id))
		x.tells("Add", f)
		x.counted("Add")
	}
}

// P16.5: when all volumes are removed, and that is committed, the pool is as free as it was made.
func TestAllRemoved(t *testing.T) {
	r := numbers(4)
	for range 40 {
		x := anew(t, 80, 4)
		free := x.p.Free()
		all := some(r.IntN(17))
		x.add(all...)
		if r.IntN(2) == 0 {
			x.commit()
		}
		for _, i := range r.Perm(len(all)) {
			x.ok("Remove", dir.Remove(x.p, all[i].Id))
			x.counted("Remove")
		}
		if x.p.Super().Dir != 0 {
			t.Fatalf("of an empty directory the root is %d", x.p.Super().Dir)
		}
		x.commit()
		if x.p.Free() != free {
			t.Fatalf("%d blocks are free, want %d", x.p.Free(), free)
		}
	}
}

// P16.3: a directory, or an entry, that is counted as often as may be: the steps' own error.
func TestCountedTooOften(t *testing.T) {
	for _, n := range []int{1, 16} {
		all := some(n)
		for _, do := range deeds(all) {
			for _, entry := range []bool{false, true} {
				var told []api.Errno
				for _, call := range []func(x *stand) api.Errno{do.call, do.hand} {
					x := anew(t, 80, 80)
					x.add(all...)
					at := x.p.Super().Dir
					if entry {
						at = x.entryAt(all[0].Id)
					}
					for x.p.Refs().Count(int(at)) < api.MaxCount {
						x.ok("Inc", x.p.Refs().Inc(int(at)))
					}
					told = append(told, call(x))
				}
				if told[0] != told[1] || !entry && told[0] != api.ErrFull {
					t.Errorf("%s tells %d, want %d", do.what, told[0], told[1])
				}
			}
		}
	}
}

// P16.3: values of a leaf that are no blocks, or are not counted: the error of the step that counts them.
func TestOldEntryNotCounted(t *testing.T) {
	for _, val := range []uint64{70, 80, 1 << 31, 1<<32 + 5, greatest} {
		want := api.ErrArg
		if val == 70 {
			want = api.ErrNone
		}
		x := anew(t, 80, 80)
		x.insert(3, val)
		x.commit()
		if e := dir.Remove(x.p, 3); e != want {
			t.Errorf("Remove of an entry at %d tells %d, want %d", val, e, want)
		}
	}
}
