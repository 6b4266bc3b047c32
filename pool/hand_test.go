package pool_test

import (
	"fmt"
	"slices"
	"testing"

	"cistern/api"
	"cistern/dir"
	"cistern/share"
	"cistern/stretch"
	"cistern/tree"
)

// The chapter's steps of each call that changes something, one behind the other, by the calls of the layers below.

func (x *stand) handAdd(v api.Volume) (uint64, api.Errno) {
	v.Id = x.p.Txn().Super().Next
	if e := dir.Add(x.p.Txn(), v); e != api.OK {
		return 0, e
	}
	return v.Id, x.p.Txn().SetNext(v.Id + 1)
}

func (x *stand) handCreate(name string, size uint64) (uint64, api.Errno) {
	if !maySize(size) {
		return 0, api.ErrArg
	}
	return x.handAdd(api.Volume{Name: name, Size: size})
}

func (x *stand) handHold(root uint64) api.Errno {
	if root == 0 {
		return api.OK
	}
	return share.Clone(x.shelf(), x.refs(), root)
}

func (x *stand) handLetGo(root uint64) api.Errno {
	if root == 0 {
		return api.OK
	}
	return share.Drop(x.shelf(), x.refs(), root)
}

func (x *stand) handSnapshot(name, as string, fixed bool) (uint64, api.Errno) {
	v, e := dir.ByName(x.p.Txn(), name)
	if e != api.OK {
		return 0, e
	}
	if e := x.handHold(v.Root); e != api.OK {
		return 0, e
	}
	return x.handAdd(api.Volume{Name: as, Size: v.Size, Root: v.Root, Fixed: fixed, Origin: v.Id})
}

func (x *stand) handDelete(name string) api.Errno {
	v, e := dir.ByName(x.p.Txn(), name)
	if e != api.OK {
		return e
	}
	if e := dir.Remove(x.p.Txn(), v.Id); e != api.OK {
		return e
	}
	return x.handLetGo(v.Root)
}

// handLay: bytes are laid, and mapped in the tree of that root; the root then is told.
func (x *stand) handLay(root, block uint64, b []byte) (uint64, api.Errno) {
	at, e := x.refs().Alloc()
	if e != api.OK {
		return 0, e
	}
	if e := x.p.Txn().Cache().Put(at, b); e != api.OK {
		return 0, e
	}
	root, old, had, e := tree.Insert(x.shelf(), root, block, uint64(at))
	if e == api.OK && had {
		_, e = x.refs().Dec(int(old))
	}
	return root, e
}

// handSet: the volume with its new map, and the old one let go.
func (x *stand) handSet(v api.Volume, root uint64) api.Errno {
	old := v.Root
	v.Root = root
	if e := dir.Set(x.p.Txn(), v); e != api.OK {
		return e
	}
	return x.handLetGo(old)
}

func (x *stand) handResize(name string, size uint64) api.Errno {
	if !maySize(size) {
		return api.ErrArg
	}
	v, e := dir.ByName(x.p.Txn(), name)
	switch {
	case e != api.OK:
		return e
	case v.Fixed:
		return api.ErrRead
	case size >= v.Size || v.Root == 0:
		v.Size = size
		return dir.Set(x.p.Txn(), v)
	}
	v.Size = size
	if e := x.handHold(v.Root); e != api.OK {
		return e
	}
	root, _, e := stretch.Clear(x.shelf(), x.refs(), v.Root, needs(size), greatest)
	if e != api.OK {
		return e
	}
	if size%256 != 0 {
		val, mapped, e := tree.Lookup(x.shelf(), root, size/256)
		if e != api.OK {
			return e
		}
		if mapped {
			b, e := x.p.Txn().Cache().Get(int(val))
			if e != api.OK {
				return e
			}
			b = append(b[:size%256:size%256], make([]byte, 256-size%256)...)
			if root, e = x.handLay(root, size/256, b); e != api.OK {
				return e
			}
		}
	}
	return x.handSet(v, root)
}

func (x *stand) handWrite(id, block uint64, b []byte) api.Errno {
	v, e := dir.ById(x.p.Txn(), id)
	switch {
	case e != api.OK:
		return e
	case v.Fixed:
		return api.ErrRead
	case block >= needs(v.Size):
		return api.ErrRange
	case len(b) != 256:
		return api.ErrArg
	}
	if e := x.handHold(v.Root); e != api.OK {
		return e
	}
	root, e := x.handLay(v.Root, block, b)
	if e != api.OK {
		return e
	}
	return x.handSet(v, root)
}

func (x *stand) handDiscard(id, from, to uint64) api.Errno {
	v, e := dir.ById(x.p.Txn(), id)
	switch {
	case e != api.OK:
		return e
	case v.Fixed:
		return api.ErrRead
	case from > to || to > needs(v.Size):
		return api.ErrRange
	}
	l, e := stretch.Each(x.shelf(), v.Root, from, to, 1)
	if e != api.OK || len(l) == 0 {
		return e
	}
	if e := x.handHold(v.Root); e != api.OK {
		return e
	}
	root, _, e := stretch.Clear(x.shelf(), x.refs(), v.Root, from, to)
	if e != api.OK {
		return e
	}
	return x.handSet(v, root)
}

// deed: a change by a call, by hand, and by the words.
type deed struct {
	what  string
	call  func(x *stand) (uint64, api.Errno)
	hand  func(x *stand) (uint64, api.Errno)
	words func(f *family) (uint64, api.Errno)
}

// mute: of a call that tells no number.
func mute[T any](do func(T) api.Errno) func(T) (uint64, api.Errno) {
	return func(t T) (uint64, api.Errno) { return 0, do(t) }
}

func created(name string, size uint64) deed {
	return deed{fmt.Sprintf("Create(%q, %d)", name, size),
		func(x *stand) (uint64, api.Errno) { return x.p.Create(name, size) },
		func(x *stand) (uint64, api.Errno) { return x.handCreate(name, size) },
		func(f *family) (uint64, api.Errno) { return f.create(name, size) }}
}

func snapped(name, as string, fixed bool) deed {
	return deed{fmt.Sprintf("Snapshot(%q, %q, %v)", name, as, fixed),
		func(x *stand) (uint64, api.Errno) { return x.p.Snapshot(name, as, fixed) },
		func(x *stand) (uint64, api.Errno) { return x.handSnapshot(name, as, fixed) },
		func(f *family) (uint64, api.Errno) { return f.snapshot(name, as, fixed) }}
}

func deleted(name string) deed {
	return deed{fmt.Sprintf("Delete(%q)", name),
		mute(func(x *stand) api.Errno { return x.p.Delete(name) }),
		mute(func(x *stand) api.Errno { return x.handDelete(name) }),
		mute(func(f *family) api.Errno { return f.delete(name) })}
}

func resized(name string, size uint64) deed {
	return deed{fmt.Sprintf("Resize(%q, %d)", name, size),
		mute(func(x *stand) api.Errno { return x.p.Resize(name, size) }),
		mute(func(x *stand) api.Errno { return x.handResize(name, size) }),
		mute(func(f *family) api.Errno { return f.resize(name, size) })}
}

func written(id, block uint64, b []byte) deed {
	return deed{fmt.Sprintf("Write(%d, %d, %d bytes)", id, block, len(b)),
		mute(func(x *stand) api.Errno { return x.p.Write(id, block, b) }),
		mute(func(x *stand) api.Errno { return x.handWrite(id, block, b) }),
		mute(func(f *family) api.Errno { return f.write(id, block, b) })}
}

func discarded(id, from, to uint64) deed {
	return deed{fmt.Sprintf("Discard(%d, %d, %d)", id, from, to),
		mute(func(x *stand) api.Errno { return x.p.Discard(id, from, to) }),
		mute(func(x *stand) api.Errno { return x.handDiscard(id, from, to) }),
		mute(func(f *family) api.Errno { return f.discard(id, from, to) })}
}

// base: deeds that make a family of volumes.
type base struct {
	what string
	made []deed
}

// writes: these blocks of a volume are written.
func writes(id uint64, n int, blocks ...uint64) []deed {
	var l []deed
	for _, block := range blocks {
		l = append(l, written(id, block, text(n+int(block%1000))))
	}
	return l
}

// rising: so many blocks.
func rising(n uint64) []uint64 {
	var l []uint64
	for block := range n {
		l = append(l, block)
	}
	return l
}

// last24: the last block of the greatest volume.
const last24 = 1<<24 - 1

// bases: one volume, and several, with small maps and with one of three levels, with snapshots of them; and as many as there may be.
func bases() []base {
	one := slices.Concat([]deed{created("a", 1000)}, writes(1, 1, 0, 3))
	few := slices.Concat([]deed{created("a", 1000)}, writes(1, 1, 0, 3), []deed{snapped("a", "b", true)}, writes(1, 50, 3, 1),
		[]deed{created("c", 1<<32)}, writes(3, 100, rising(20)...), writes(3, 7, last24, 1<<20, 1<<23),
		[]deed{created("d", 1), snapped("c", "e", false)}, writes(5, 200, 5, 1<<20),
		[]deed{snapped("e", "f", true), created("g", 5*256)}, writes(7, 70, 0, 1, 2, 3, 4), writes(7, 90, 4))
	full := []deed{created("c", 9000)}
	full = append(full, writes(1, 33, rising(36)...)...)
	for i := range 15 {
		full = append(full, snapped("c", fmt.Sprint("s", i), i%2 == 0))
		full = append(full, writes(1, 34+i, uint64(i))...)
	}
	return []base{{"none", nil}, {"one", one}, {"few", few}, {"full", full}}
}

// tried: deeds that may be done to a base.
func (b base) tried() []deed {
	switch b.what {
	case "none":
		return []deed{created("new", 1), created("new", 1<<32)}
	case "one":
		l := []deed{created("new", 300), snapped("a", "new", true), snapped("a", "new", false), deleted("a")}
		l = append(l, written(1, 0, text(9)), written(1, 1, text(9)), written(1, 2, make([]byte, 256)), written(1, 3, text(9)))
		l = append(l, discarded(1, 0, 4), discarded(1, 0, 1), discarded(1, 1, 3), discarded(1, 3, 4), discarded(1, 2, 2))
		for _, size := range []uint64{1, 255, 256, 257, 512, 768, 769, 900, 999, 1000, 1001, 1024, 1025, 1 << 32} {
			l = append(l, resized("a", size))
		}
		return l
	case "few":
		l := []deed{created("new", 300), written(1, 0, text(9)), written(1, 2, text(9)), written(4, 0, text(9)), discarded(1, 0, 4), discarded(1, 1, 2)}
		for _, name := range []string{"a", "b", "c", "d", "e", "f"} {
			l = append(l, snapped(name, "new", name < "c"), deleted(name))
		}
		for _, id := range []uint64{3, 5} {
			l = append(l, written(id, 0, text(9)), written(id, 5, text(9)), written(id, 21, text(9)), written(id, last24, text(9)), written(id, last24-1, text(9)))
			l = append(l, discarded(id, 0, 1<<24), discarded(id, 0, 20), discarded(id, 3, 4), discarded(id, 7, 15), discarded(id, 2, 1<<23), discarded(id, 20, 1<<20), discarded(id, 1<<23, 1<<24))
		}
		for _, size := range []uint64{1, 256, 257, 1000, 1024, 12 * 256, 12*256 + 1, 20*256 - 1, 30 * 256, 1<<28 + 1, 1<<31 + 255, 1<<32 - 256, 1<<32 - 1, 1 << 32} {
			l = append(l, resized("c", size), resized("e", size))
		}
		for _, size := range []uint64{1, 2, 256, 257, 1 << 32} {
			l = append(l, resized("d", size), resized("a", size), resized("g", size))
		}
		return l
	}
	return []deed{deleted("s0"), deleted("c"), deleted("s14"), resized("c", 100), resized("s1", 1000), resized("s13", 1<<20),
		written(1, 0, text(9)), written(3, 20, text(9)), written(15, 35, text(9)), discarded(1, 0, 36), discarded(3, 1, 36), discarded(15, 9, 10)}
}

// manner: how a pool comes to stand ahead of a change.
type manner struct {
	what string
	do   func(x *stand)
}

var manners = []manner{
	{"fresh", func(x *stand) {}},
	{"committed", func(x *stand) { x.commit() }},
	{"committed, then changed", func(x *stand) { x.commit(); x.again() }},
	{"its maps held", func(x *stand) { x.held(); x.commit() }},
}

// again: each volume that may be written to gets a block that it has once more.
func (x *stand) again() {
	x.t.Helper()
	l, e := x.p.List()
	x.ok("List", e)
	for _, v := range l {
		if p, there, e := stretch.First(x.shelf(), v.Root); e == api.OK && there && !v.Fixed {
			b, e := x.p.Read(v.Id, p.Key)
			x.ok("Read", e)
			x.ok("Write", x.p.Write(v.Id, p.Key, b))
		}
	}
}

// held: each map is held by somebody else, too.
func (x *stand) held() {
	x.t.Helper()
	l, e := x.p.List()
	x.ok("List", e)
	for _, v := range l {
		if v.Root != 0 {
			x.ok("Clone", share.Clone(x.shelf(), x.refs(), v.Root))
			x.roots = append(x.roots, v.Root)
		}
	}
}

// built: a pool of a base, that stands so.
func (b base) built(t *testing.T, m manner, room int) (*stand, family) {
	t.Helper()
	x, f := anew(t, 240, room), newFamily()
	for _, do := range b.made {
		id, e := do.call(x)
		x.ok(do.what, e)
		if want, e := do.words(&f); id != want || e != api.OK {
			t.Fatalf("%s tells %d, want %d, %d", do.what, id, want, e)
		}
	}
	m.do(x)
	return x, f
}

// ground: a pool that stands on a base, and is not changed itself, but for its twins; and the volumes that it has.
type ground struct {
	what string
	*stand
	has family
}

// ground: that of a base, which stands so. Nothing of it is in its cache alone.
func (b base) ground(t *testing.T, m manner) ground {
	t.Helper()
	x, f := b.built(t, m, 240)
	x.ok("Flush", x.p.Txn().Cache().Flush())
	return ground{b.what + ", " + m.what, x, f}
}

// twin: a pool that is the same, and lives apart.
func (g ground) twin(room int) (*stand, family) {
	g.t.Helper()
	y := &stand{t: g.t, d: g.d.Copy()}
	y.open(room)
	y.ok("Become", y.refs().Become(g.refs()))
	y.ok("SetDir", y.p.Txn().SetDir(g.p.Txn().Super().Dir))
	y.ok("SetNext", y.p.Txn().SetNext(g.p.Txn().Super().Next))
	y.fillers, y.roots = slices.Clone(g.fillers), slices.Clone(g.roots)
	return y, g.has.copied()
}

// unfill: one more block is free.
func (x *stand) unfill() {
	x.t.Helper()
	last := len(x.fillers) - 1
	_, e := x.refs().Dec(int(x.fillers[last]))
	x.ok("Dec", e)
	x.fillers = x.fillers[:last]
}

// compared: a deed is done by its call, and by hand: both tell the same, and leave the same. What it leaves is what the words say, and all is counted.
func compared(t *testing.T, g ground, do deed, free int) {
	t.Helper()
	x, f := g.twin(240)
	y, _ := g.twin(240)
	if free >= 0 {
		x.fill(free)
		y.fill(free)
	}
	what := fmt.Sprintf("%d free: %s", free, do.what)
	ahead := x.state()
	id, e := do.call(x)
	want, h := do.hand(y)
	if e != h || e == api.OK && id != want || e != api.OK && id != 0 {
		t.Fatalf("%s tells %d, %d, want %d, %d", what, id, e, want, h)
	}
	if e != api.OK {
		x.told(what, e, api.ErrFull)
		if by := differ(x.state(), ahead); by != "" {
			t.Fatalf("%s changes %s", what, by)
		}
		x.tells(what, f)
		return
	}
	if by := differ(x.state(), y.state()); by != "" {
		t.Fatalf("%s: by hand is other %s", what, by)
	}
	if w, e := do.words(&f); w != id || e != api.OK {
		t.Fatalf("%s tells %d, want %d, %d", what, id, w, e)
	}
	x.tells(what, f)
	x.counted(what)
}

// each: a test of each base, in each manner, with each deed that is tried.
func each(t *testing.T, do func(t *testing.T, g ground, do deed)) {
	for _, b := range bases() {
		for _, m := range manners {
			t.Run(b.what+", "+m.what, func(t *testing.T) {
				t.Parallel()
				g := b.ground(t, m)
				for _, d := range b.tried() {
					do(t, g, d)
				}
			})
		}
	}
}

// P17.2 to P17.4, P17.7: what each call leaves is, block by block, what the chapter's steps leave; each block is counted as often as it is pointed to.
func TestByHand(t *testing.T) {
	each(t, func(t *testing.T, g ground, do deed) { compared(t, g, do, -1) })
}

// P17.8: with no room at each step of each call, ErrFull, and nothing has changed: no count, nor what stands now, nor the bytes of a block. The least room with which it is done is that with which the chapter's steps are.
func TestNoRoom(t *testing.T) {
	each(t, func(t *testing.T, g ground, do deed) {
		x, _ := g.twin(240)
		x.fill(0)
		for {
			ahead := x.state()
			id, e := do.call(x)
			if e == api.OK {
				break
			}
			if e != api.ErrFull || id != 0 || ahead.Free > 40 {
				t.Fatalf("with %d free %s tells %d, %d", ahead.Free, do.what, id, e)
			}
			if by := differ(x.state(), ahead); by != "" {
				t.Fatalf("with %d free %s changes %s", ahead.Free, do.what, by)
			}
			x.unfill()
		}
		least := len(x.fillers)
		y, _ := g.twin(240)
		least = y.p.Free() - least
		compared(t, g, do, least)
		if least > 0 {
			compared(t, g, do, least-1)
		}
	})
}
