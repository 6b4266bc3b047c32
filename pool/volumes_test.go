package pool_test

import (
	"fmt"
	"slices"
	"testing"

	"cistern/api"
	"cistern/dir"
	"cistern/pool"
	"cistern/share"
	"cistern/txn"
)

// sizes: at and beside all edges, with how many blocks they need; of such as may not be none.
var sizes = []struct{ size, blocks uint64 }{
	{0, 0}, {1, 1}, {2, 1}, {255, 1}, {256, 1}, {257, 2}, {511, 2}, {512, 2}, {513, 3}, {1000, 4}, {1 << 20, 1 << 12}, {1<<20 + 1, 1<<12 + 1},
	{1<<32 - 256, 1<<24 - 1}, {1<<32 - 255, 1 << 24}, {1<<32 - 1, 1 << 24}, {1 << 32, 1 << 24},
	{1<<32 + 1, 0}, {1<<32 + 256, 0}, {1 << 33, 0}, {1 << 63, 0}, {greatest, 0},
}

// mayNot: names that may not be.
var mayNot = []string{"", "A", "a b", "a/b", "é", "a\x00", "\xff", "0123456789abcdefg", "a\n"}

// P17.1: the pool of a Txn, and of none; what it tells is the Txn's, and the directory's.
func TestNew(t *testing.T) {
	if q := pool.New(nil); q != nil {
		t.Errorf("of no Txn there is %v", q)
	}
	if q := pool.New(&txn.Txn{}); q != nil {
		t.Errorf("of a Txn that Open did not make there is %v", q)
	}
	x := anew(t, 60, 8)
	p := x.p.Txn()
	if pool.New(p).Txn() != p {
		t.Errorf("Txn is another one")
	}
	x.create("b", 300)
	x.create("a", 200)
	x.write(1, 3, 1)
	if x.p.Free() != p.Free() || p.Free() == 56 {
		t.Errorf("%d are free, want %d", x.p.Free(), p.Free())
	}
	l, e := dir.List(p)
	x.ok("List", e)
	have, e := x.p.List()
	if e != api.OK || !slices.Equal(have, l) || l[0].Name != "a" {
		t.Errorf("List tells %v, %d, want %v", have, e, l)
	}
	for _, v := range l {
		byName, e := x.p.Get(v.Name)
		byId, g := x.p.ById(v.Id)
		if e != api.OK || g != api.OK || byName != v || byId != v {
			t.Errorf("of %v is told %v, %d and %v, %d", v, byName, e, byId, g)
		}
	}
	clear(have)
	if again, e := x.p.List(); e != api.OK || !slices.Equal(again, l) {
		t.Errorf("behind a List that was written over is told %v, %d", again, e)
	}
}

// P17.1: Commit and Abort are the Txn's.
func TestCommitAbort(t *testing.T) {
	x := anew(t, 60, 8)
	x.create("a", 300)
	x.commit()
	f := newFamily()
	f.create("a", 300)
	if s := x.p.Txn().Super(); s.Gen != 2 || s.Next != 2 || x.refs().Fresh(int(s.Dir)) {
		t.Errorf("behind a Commit %v stands", s)
	}
	x.write(1, 3, 0)
	x.create("b", 7)
	x.ok("Abort", x.p.Abort())
	x.tells("behind Abort", f)
	x.counted("behind Abort")
	x.open(8)
	x.tells("behind Open", f)
}

// P17.2: Create: sizes, and names; the first that is wrong is told, and nothing changes.
func TestCreate(t *testing.T) {
	for _, s := range sizes {
		x := anew(t, 60, 8)
		if s.blocks == 0 {
			x.stays("Create", func() {
				if id, e := x.p.Create("a", s.size); id != 0 || e != api.ErrArg {
					t.Errorf("Create of %d bytes tells %d, %d", s.size, id, e)
				}
			})
			continue
		}
		x.create("a", s.size)
		v, e := x.p.Get("a")
		if want := (api.Volume{Id: 1, Name: "a", Size: s.size}); e != api.OK || v != want {
			t.Errorf("behind Create there is %v, %d, want %v", v, e, want)
		}
		x.counted("behind Create")
	}
	x := anew(t, 60, 8)
	x.create("a", 1)
	x.stays("Create", func() {
		for _, name := range mayNot {
			_, e := x.p.Create(name, 1)
			x.told(fmt.Sprintf("Create(%q, 1)", name), e, api.ErrArg)
			_, e = x.p.Snapshot("a", name, true)
			x.told(fmt.Sprintf("Snapshot(a, %q)", name), e, api.ErrArg)
		}
		_, e := x.p.Create("a", 2)
		x.told("Create of a name that is there", e, api.ErrThere)
		_, e = x.p.Create("a", 0)
		x.told("Create of a name that is there, and of no size", e, api.ErrArg)
	})
}

// P17.2: so many volumes, and one more; numbers rise, whatever was deleted.
func TestMostVolumes(t *testing.T) {
	x, f := anew(t, 120, 8), newFamily()
	do := func(d deed) {
		t.Helper()
		want, g := d.words(&f)
		if id, e := d.call(x); id != want || e != g {
			t.Fatalf("%s tells %d, %d, want %d, %d", d.what, id, e, want, g)
		}
		x.tells(d.what, f)
		x.counted(d.what)
	}
	do(created("v0", 300))
	do(written(1, 1, text(3)))
	for i := 1; i < 16; i++ {
		if i%3 == 0 {
			do(created(fmt.Sprint("v", i), uint64(i)))
		} else {
			do(snapped(fmt.Sprint("v", i-1), fmt.Sprint("v", i), i%2 == 0))
		}
	}
	for range 2 {
		x.stays("one more", func() {
			do(created("more", 5))
			do(snapped("v3", "more", true))
			do(snapped("v3", "v3", true))
			do(created("V", 5))
		})
	}
	for i := range 16 {
		do(deleted(fmt.Sprint("v", i)))
		do(created(fmt.Sprint("w", i), uint64(i+1)))
		do(created("more", 5))
	}
	if next := x.p.Txn().Super().Next; next != 33 {
		t.Errorf("Next is %d", next)
	}
}

// P17.2: a Next behind which there is none: nothing changes.
func TestLastNumber(t *testing.T) {
	x := anew(t, 60, 8)
	x.create("a", 300)
	x.write(1, 3, 0)
	x.ok("SetNext", x.p.Txn().SetNext(greatestId-1))
	if id := x.create("b", 300); id != greatestId-1 {
		t.Errorf("Create tells %d", id)
	}
	x.stays("a number behind which there is none", func() {
		for _, call := range []deed{created("c", 300), snapped("a", "c", false)} {
			if id, e := call.call(x); id != 0 || e != api.ErrArg {
				t.Errorf("%s tells %d, %d", call.what, id, e)
			}
		}
	})
	x.ok("SetNext", x.p.Txn().SetNext(1)) // a number that is there
	x.stays("a number that is there", func() {
		for _, call := range []deed{created("c", 300), snapped("a", "c", false)} {
			if id, e := call.call(x); id != 0 || e != api.ErrThere {
				t.Errorf("%s tells %d, %d", call.what, id, e)
			}
		}
	})
	x.ok("SetNext", x.p.Txn().SetNext(77))
	if id := x.snapshot("b", "c", false); id != 77 {
		t.Errorf("Snapshot tells %d", id)
	}
}

// P17.2: Snapshot of a volume that is empty, of a snapshot, and of one whose blocks are written later; what is said of it.
func TestSnapshot(t *testing.T) {
	x := anew(t, 120, 4)
	x.create("a", 2000)
	x.snapshot("a", "empty", true)
	x.write(1, 10, 0, 3, 7)
	x.snapshot("a", "b", false)
	x.snapshot("b", "c", true)
	x.write(1, 20, 0, 3, 4)
	x.write(3, 30, 3, 5)
	a, _ := x.p.Get("a")
	for _, want := range []api.Volume{
		{Id: 2, Name: "empty", Size: 2000, Fixed: true, Origin: 1},
		{Id: 3, Name: "b", Size: 2000, Origin: 1},
		{Id: 4, Name: "c", Size: 2000, Fixed: true, Origin: 3},
	} {
		v, e := x.p.Get(want.Name)
		if e != api.OK || rootless(v) != want || v.Root == a.Root || (v.Root == 0) != (v.Name == "empty") {
			t.Errorf("there is %v, %d, want %v", v, e, want)
		}
	}
	x.has(1, 0, text(20))
	x.has(1, 7, text(17))
	x.has(2, 0, make([]byte, 256))
	x.has(3, 3, text(33))
	x.has(3, 4, make([]byte, 256))
	x.has(3, 7, text(17))
	x.has(4, 0, text(10))
	x.has(4, 3, text(13))
	x.has(4, 5, make([]byte, 256))
	x.counted("behind all")
	x.stays("Snapshot that is refused", func() {
		for _, c := range []struct {
			name, as string
			want     api.Errno
		}{{"none", "d", api.ErrNone}, {"none", "A", api.ErrNone}, {"none", "a", api.ErrNone}, {"", "d", api.ErrNone}, {"a", "a", api.ErrThere}, {"a", "c", api.ErrThere}, {"a", "A", api.ErrArg}} {
			if id, e := x.p.Snapshot(c.name, c.as, true); id != 0 || e != c.want {
				t.Errorf("Snapshot(%q, %q) tells %d, %d, want %d", c.name, c.as, id, e, c.want)
			}
		}
	})
}

// P17.2: Snapshot holds the map, and shares it: it takes what an entry takes, however great the map is.
func TestSnapshotIsThin(t *testing.T) {
	x := anew(t, 240, 8)
	x.create("a", 1<<20)
	x.write(1, 1, rising(80)...)
	x.commit()
	a, _ := x.p.Get("a")
	free := x.p.Free()
	x.snapshot("a", "b", false)
	b, _ := x.p.Get("b")
	if a.Root != b.Root || x.refs().Count(int(a.Root)) != 2 || free-x.p.Free() > 2 {
		t.Errorf("the snapshot's Root is %d, want %d, %d blocks were taken", b.Root, a.Root, free-x.p.Free())
	}
}

// P17.2: Delete of what is there, and is not, and of a Fixed one; what others have stays.
func TestDelete(t *testing.T) {
	x := anew(t, 120, 4)
	x.create("a", 2000)
	x.write(1, 10, 0, 3, 7)
	x.snapshot("a", "b", true)
	x.write(1, 20, 3)
	x.stays("Delete that is refused", func() {
		for _, name := range append(mayNot, "c", "aa") {
			x.told(fmt.Sprintf("Delete(%q)", name), x.p.Delete(name), api.ErrNone)
		}
	})
	x.ok("Delete", x.p.Delete("a"))
	x.counted("behind Delete")
	x.told("Delete once more", x.p.Delete("a"), api.ErrNone)
	_, e := x.p.ById(1)
	x.told("ById", e, api.ErrNone)
	_, e = x.p.Read(1, 0)
	x.told("Read", e, api.ErrNone)
	x.told("Write", x.p.Write(1, 0, text(1)), api.ErrNone)
	x.told("Discard", x.p.Discard(1, 0, 0), api.ErrNone)
	x.has(2, 0, text(10))
	x.has(2, 3, text(13))
	x.ok("Delete", x.p.Delete("b"))
	x.counted("behind Delete")
	if l, e := x.p.List(); len(l) > 0 || e != api.OK || x.p.Txn().Super().Dir != 0 {
		t.Errorf("behind all Deletes there are %v, %d", l, e)
	}
	x.commit()
	if x.p.Free() != 116 {
		t.Errorf("%d blocks are free", x.p.Free())
	}
}

// P17.3: Resize: the order of the errors.
func TestResizeRefused(t *testing.T) {
	x := anew(t, 120, 4)
	x.create("a", 2000)
	x.write(1, 10, 0, 3, 7)
	x.snapshot("a", "b", true)
	x.stays("Resize that is refused", func() {
		for _, s := range sizes {
			for name, want := range map[string]api.Errno{"none": api.ErrNone, "A": api.ErrNone, "b": api.ErrRead} {
				if s.blocks == 0 {
					want = api.ErrArg
				}
				x.told(fmt.Sprintf("Resize(%q, %d)", name, s.size), x.p.Resize(name, s.size), want)
			}
			if s.blocks == 0 {
				x.told(fmt.Sprintf("Resize(a, %d)", s.size), x.p.Resize("a", s.size), api.ErrArg)
			}
		}
	})
}

// P17.3: Resize from each size to each, and back to the first: what was cut off is noughts, all else stays, of a snapshot all.
func TestResize(t *testing.T) {
	t.Parallel()
	all := []uint64{1, 100, 255, 256, 257, 300, 511, 512, 513, 700, 768, 1000, 1024, 1025, 1300, 5000, 1 << 32}
	for _, mapped := range [][]uint64{nil, {0}, {1}, {2}, {3}, {0, 1}, {0, 2, 3}, {0, 1, 2, 3, 4}, {4}} {
		for _, from := range all {
			x, f := anew(t, 60, 60), newFamily()
			x.create("a", from)
			f.create("a", from)
			for _, block := range mapped {
				if block < needs(from) {
					x.write(1, 5, block)
					f.write(1, block, text(5+int(block)))
				}
			}
			x.snapshot("a", "b", true)
			f.snapshot("a", "b", true)
			x.commit()
			for _, to := range all {
				g := f.copied()
				what := fmt.Sprintf("of %d bytes, %v mapped: Resize to %d", from, mapped, to)
				for _, size := range []uint64{to, from} {
					x.ok(what, x.p.Resize("a", size))
					g.resize("a", size)
					x.tells(what, g)
					x.counted(what)
				}
				x.ok("Abort", x.p.Abort())
			}
		}
	}
}

// P17.3: bytes behind the end of the last block, that were written there, are seen when the volume grows, and are cut off when it is made smaller, by one byte too.
func TestResizeWithinABlock(t *testing.T) {
	x := anew(t, 60, 60)
	x.create("a", 300)
	x.write(1, 5, 0, 1)
	x.ok("Resize", x.p.Resize("a", 600))
	x.has(1, 1, text(6))
	x.ok("Resize", x.p.Resize("a", 600))
	x.has(1, 1, text(6))
	x.ok("Resize", x.p.Resize("a", 511))
	x.has(1, 1, append(text(6)[:255], 0))
	x.ok("Resize", x.p.Resize("a", 257))
	x.has(1, 1, append(text(6)[:1], make([]byte, 255)...))
	x.ok("Resize", x.p.Resize("a", 256))
	x.ok("Resize", x.p.Resize("a", 512))
	x.has(1, 1, make([]byte, 256))
	x.has(1, 0, text(5))
	if v, _ := x.p.Get("a"); len(x.keys(v.Root)) != 1 {
		t.Errorf("of the volume %v is mapped", x.keys(v.Root))
	}
}

// P17.3: what stands in the directory of no size, and with blocks behind the end, as no call of the pool makes them.
func TestResizeOfOthers(t *testing.T) {
	x := anew(t, 60, 60)
	x.ok("Add", dir.Add(x.p.Txn(), api.Volume{Id: 9, Name: "nought"}))
	x.ok("Discard", x.p.Discard(9, 0, 0))
	x.told("Discard", x.p.Discard(9, 0, 1), api.ErrRange)
	x.told("Write", x.p.Write(9, 0, text(1)), api.ErrRange)
	_, e := x.p.Read(9, 0)
	x.told("Read", e, api.ErrRange)
	x.ok("Resize", x.p.Resize("nought", 100))
	x.write(9, 3, 0)
	x.create("a", 5000)
	x.write(1, 40, 0, 1, 2, 19)
	v, _ := x.p.Get("a")
	v.Size = 1000
	x.ok("Set", dir.Set(x.p.Txn(), v))
	x.ok("Resize", x.p.Resize("a", 2000))
	x.has(1, 2, text(42))
	x.ok("Resize", x.p.Resize("a", 300))
	x.ok("Resize", x.p.Resize("a", 5000))
	x.has(1, 0, text(40))
	x.has(1, 1, append(text(41)[:44], make([]byte, 212)...))
	x.has(1, 2, make([]byte, 256))
	x.has(1, 19, make([]byte, 256))
	x.counted("behind all")
}

// P17.7: whatever was done, when all volumes are deleted, and that is committed, all is free that was so at the beginning.
func TestAllFree(t *testing.T) {
	for _, b := range bases() {
		for _, m := range manners[:3] {
			x, _ := b.built(t, m, 5)
			for i, do := range b.tried() {
				if i%3 == 0 {
					do.call(x)
				}
			}
			l, e := x.p.List()
			x.ok("List", e)
			r := numbers(3)
			for _, i := range r.Perm(len(l)) {
				x.ok("Delete", x.p.Delete(l[i].Name))
				x.counted("Delete")
			}
			if dir := x.p.Txn().Super().Dir; dir != 0 {
				t.Errorf("of no volumes the directory is %d", dir)
			}
			x.commit()
			if x.p.Free() != 236 {
				t.Errorf("%s, %s: %d blocks are free", b.what, m.what, x.p.Free())
			}
		}
	}
}

// P17.3, P17.4: a map, and a block, that are counted as often as may be: the error of the step, and nothing changes.
func TestCountedTooOften(t *testing.T) {
	for _, at := range []string{"map", "directory", "bytes", "leaf"} {
		for _, do := range []deed{snapped("c", "new", true), deleted("c"), resized("c", 1000), resized("c", 1001), resized("c", 1<<32), written(3, 0, text(9)), written(3, 30, text(9)), discarded(3, 0, 9), discarded(3, 18, 20), created("new", 1)} {
			var told []api.Errno
			for _, call := range []func(*stand) (uint64, api.Errno){do.call, do.hand} {
				x, _ := bases()[2].built(t, manners[1], 240)
				x.tooOften(at)
				ahead := x.state()
				_, e := call(x)
				told = append(told, e)
				if by := differ(x.state(), ahead); e != api.OK && by != "" && len(told) == 1 {
					t.Errorf("%s of a %s counted too often changes %s", do.what, at, by)
				}
			}
			if told[0] != told[1] {
				t.Errorf("%s of a %s counted too often tells %d, want %d", do.what, at, told[0], told[1])
			}
		}
	}
}

// tooOften: what the volume 3 stands on is counted as often as may be.
func (x *stand) tooOften(what string) {
	x.t.Helper()
	v, e := x.p.ById(3)
	x.ok("ById", e)
	at := v.Root
	switch what {
	case "directory":
		at = x.p.Txn().Super().Dir
	case "leaf":
		at = x.load(v.Root).Vals[0]
	case "bytes":
		at = x.keys(v.Root)[2]
	}
	for x.refs().Count(int(at)) < api.MaxCount {
		x.ok("Clone", share.Clone(x.shelf(), x.refs(), at))
	}
}
