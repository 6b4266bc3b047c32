package pool_test

import (
	"encoding/binary"
	"fmt"
	"math/rand/v2"
	"testing"

	"cistern/api"
	"cistern/dir"
	"cistern/pool"
	"cistern/txn"
)

// asked: what a pool is asked for.
type asked struct {
	name     string
	id       uint64
	size     uint64
	from, to uint64
	b        []byte
	do       func() api.Errno
}

// calls: all calls that tell an error; beside one they tell nothing.
func calls(t *testing.T, p *pool.Pool, a asked) map[string]func() api.Errno {
	t.Helper()
	nought := func(e api.Errno, nothing bool) api.Errno {
		t.Helper()
		if e != api.OK && !nothing {
			t.Fatalf("beside the error %d something is told", e)
		}
		return e
	}
	return map[string]func() api.Errno{
		"Create":   func() api.Errno { id, e := p.Create(a.name, a.size); return nought(e, id == 0) },
		"Snapshot": func() api.Errno { id, e := p.Snapshot(a.name, "n", a.id%2 == 0); return nought(e, id == 0) },
		"Delete":   func() api.Errno { return p.Delete(a.name) },
		"Resize":   func() api.Errno { return p.Resize(a.name, a.size) },
		"Get":      func() api.Errno { v, e := p.Get(a.name); return nought(e, v == api.Volume{}) },
		"ById":     func() api.Errno { v, e := p.ById(a.id); return nought(e, v == api.Volume{}) },
		"List":     func() api.Errno { l, e := p.List(); return nought(e, len(l) == 0) },
		"Read":     func() api.Errno { b, e := p.Read(a.id, a.from); return nought(e, len(b) == 0) },
		"Write":    func() api.Errno { return p.Write(a.id, a.from, a.b) },
		"Discard":  func() api.Errno { return p.Discard(a.id, a.from, a.to) },
		"Commit":   func() api.Errno { return p.Commit() },
		"Abort":    func() api.Errno { return p.Abort() },
		"Whole":    func() api.Errno { return p.Whole(a.do) },
	}
}

// tellsOnly: that all calls tell that one error, whatever they are asked for.
func tellsOnly(t *testing.T, what string, p *pool.Pool, want api.Errno) {
	t.Helper()
	for _, a := range []asked{
		{},
		{"a", 1, 300, 0, 1, text(1), func() api.Errno { t.Errorf("%s: it is done", what); return api.OK }},
		{"none", 9, 1 << 33, 9, 3, text(1)[:9], nil},
		{"A", greatest, greatest, greatest, greatest, nil, nil},
		{"b", 2, 1, 77, 78, text(1), nil},
	} {
		for name, call := range calls(t, p, a) {
			if e := call(); e != want {
				t.Errorf("%s: %s of %v tells %d, want %d", what, name, a, e, want)
			}
		}
	}
}

// ErrNil, zeros, nil: a pool that is none, and one that New did not make.
func TestNoPool(t *testing.T) {
	for what, p := range map[string]*pool.Pool{"no pool": nil, "one that New did not make": {}, "one of no Txn": pool.New(nil), "one of a Txn that Open did not make": pool.New(&txn.Txn{})} {
		tellsOnly(t, what, p, api.ErrNil)
		if p.Txn() != nil || p.Free() != 0 {
			t.Errorf("%s has %v, %d", what, p.Txn(), p.Free())
		}
	}
}

// over: the pool's Commit fails; the power is there again, if it is to be.
func (x *stand) over(power bool) {
	x.t.Helper()
	x.d.Fuse(1)
	if e := x.p.Commit(); e != api.ErrOff || !x.p.Txn().Over() {
		x.t.Fatalf("Commit tells %d", e)
	}
	if power {
		x.d.Crash(nil)
	}
}

// ErrBusy of one whose Txn is over, whatever is asked for; nothing changes.
func TestOver(t *testing.T) {
	for _, power := range []bool{false, true} {
		x := anew(t, 60, 60)
		x.create("a", 1000)
		x.write(1, 3, 1)
		x.snapshot("a", "b", true)
		x.over(power)
		ahead := x.powerless()
		tellsOnly(t, "a pool that is over", x.p, api.ErrBusy)
		if by := differ(x.powerless(), ahead); by != "" {
			t.Errorf("of a pool that is over is changed %s", by)
		}
		if x.p.Txn() == nil || x.p.Free() != x.p.Txn().Free() || x.p.Free() == 0 {
			t.Errorf("of a pool that is over %d blocks are free", x.p.Free())
		}
	}
}

// off: the power goes; nothing is in flight then.
func (x *stand) off() {
	x.t.Helper()
	x.ok("Barrier", x.d.Barrier())
	x.d.Fuse(1)
	x.told("Barrier", x.d.Barrier(), api.ErrOff)
}

// Without power: what is told without a look at a block is told as ever; all else is ErrOff, and nothing changes.
func TestNoPower(t *testing.T) {
	x := anew(t, 60, 60)
	x.off()
	ahead := x.powerless()
	_, e := x.p.Create("a", 0)
	x.told("Create of no size", e, api.ErrArg)
	_, e = x.p.Create("A", 1)
	x.told("Create of no name", e, api.ErrArg)
	x.told("Resize of no size", x.p.Resize("a", 0), api.ErrArg)
	x.told("Resize", x.p.Resize("a", 1), api.ErrNone)
	x.told("Delete", x.p.Delete("a"), api.ErrNone)
	x.told("Write", x.p.Write(1, 0, nil), api.ErrNone)
	_, e = x.p.Create("a", 1)
	x.told("Create", e, api.ErrOff)
	x.ok("Whole", x.p.Whole(func() api.Errno { return api.OK }))
	x.told("Whole", x.p.Whole(func() api.Errno { return x.p.Delete("a") }), api.ErrNone)
	if by := differ(x.powerless(), ahead); by != "" {
		t.Errorf("without power is changed %s", by)
	}
	x = anew(t, 60, 60)
	x.create("a", 1000)
	x.write(1, 3, 1)
	x.commit()
	x.write(1, 4, 1, 2)
	x.off()
	ahead = x.powerless()
	all := calls(t, x.p, asked{"a", 1, 300, 1, 2, text(1), nil})
	delete(all, "Commit")
	delete(all, "Abort")
	all["Whole"] = func() api.Errno { return x.p.Whole(func() api.Errno { return x.p.Delete("a") }) }
	for name, call := range all {
		if e := call(); e != api.ErrOff && !(name == "Create" && e == api.ErrArg) {
			t.Errorf("without power %s tells %d", name, e)
		}
	}
	if by := differ(x.powerless(), ahead); by != "" {
		t.Errorf("without power is changed %s", by)
	}
	x.d.Crash(nil)
	x.ok("Abort", x.p.Abort())
	x.has(1, 1, text(4))
	x.counted("behind Abort")
}

// spoils: how what a volume stands on is spoilt: by its map's root, a leaf of it, its entry, or what its map has for a block.
var spoils = []struct {
	what string
	do   func(x *stand, v api.Volume)
}{
	{"a root of noughts", func(x *stand, v api.Volume) { x.put(v.Root, make([]byte, 256)) }},
	{"a root of another kind", func(x *stand, v api.Volume) { x.seal(v.Root, []byte{1}, api.KindEntry) }},
	{"a root of no node", func(x *stand, v api.Volume) { x.seal(v.Root, []byte{2, 1}, api.KindNode) }},
	{"a leaf of noughts", func(x *stand, v api.Volume) {
		at := v.Root
		for n := x.load(at); !n.Leaf; n = x.load(at) {
			at = n.Vals[len(n.Vals)/2]
		}
		x.put(at, make([]byte, 256))
	}},
	{"a root that goes round", func(x *stand, v api.Volume) {
		x.ok("Save", x.shelf().Save(v.Root, api.Node{Keys: []uint64{0}, Vals: []uint64{v.Root}}))
	}},
	{"a block beyond the disk", func(x *stand, v api.Volume) { x.values(v.Root, 240) }},
	{"a block beyond all disks", func(x *stand, v api.Volume) { x.values(v.Root, 1<<32+9) }},
	{"a block that is not counted", func(x *stand, v api.Volume) { x.values(v.Root, 239) }},
	{"an entry of noughts", func(x *stand, v api.Volume) { x.put(x.keys(x.p.Txn().Super().Dir)[v.Id], make([]byte, 256)) }},
	{"an entry of a root beyond the disk", func(x *stand, v api.Volume) { v.Root = 240; x.entry(v) }},
	{"an entry of a root beyond all disks", func(x *stand, v api.Volume) { v.Root = 1<<63 + 5; x.entry(v) }},
	{"an entry of a root that is not counted", func(x *stand, v api.Volume) { v.Root = 239; x.entry(v) }},
	{"an entry of a superblock as root", func(x *stand, v api.Volume) { v.Root = 1; x.entry(v) }},
	{"an entry of a page as root", func(x *stand, v api.Volume) { v.Root = 3; x.entry(v) }},
	{"an entry of the directory as root", func(x *stand, v api.Volume) { v.Root = x.p.Txn().Super().Dir; x.entry(v) }},
}

// values: all leaves of the map of that root have that value alone.
func (x *stand) values(root, val uint64) {
	x.t.Helper()
	n := x.load(root)
	for i := range n.Vals {
		if !n.Leaf {
			x.values(n.Vals[i], val)
			continue
		}
		n.Vals[i] = val
	}
	x.ok("Save", x.shelf().Save(root, n))
}

// entry: the entry of a volume is written over where it stands.
func (x *stand) entry(v api.Volume) {
	x.t.Helper()
	b, e := dir.Put(v)
	x.ok("Put", e)
	x.seal(x.keys(x.p.Txn().Super().Dir)[v.Id], b, api.KindEntry)
}

// Those of the layers, P17.8: of a pool of which something is spoilt each call tells what its steps by hand do; behind an error nothing has changed, alone and behind much in a Whole.
func TestSpoilt(t *testing.T) {
	b := bases()[2]
	for _, spoil := range spoils {
		t.Run(spoil.what, func(t *testing.T) {
			t.Parallel()
			failed := 0
			for _, m := range manners[:2] {
				g := b.ground(t, m)
				for _, do := range b.tried() {
					failed += g.spoilt(do, spoil.do)
				}
			}
			if failed == 0 {
				t.Errorf("no call fails")
			}
		})
	}
}

// spoilt: a deed of a pool of which something is spoilt, held against that by hand; how often it failed.
func (g ground) spoilt(do deed, spoil func(x *stand, v api.Volume)) int {
	t := g.t
	t.Helper()
	x, y := g.spoil(spoil), g.spoil(spoil)
	what := g.what + ": " + do.what
	ahead := x.state()
	id, e := do.call(x)
	want, h := do.hand(y)
	if e != h || e == api.OK && id != want || e != api.OK && id != 0 {
		t.Fatalf("%s tells %d, %d, want %d, %d", what, id, e, want, h)
	}
	if e == api.OK {
		if by := differ(x.state(), y.state()); by != "" {
			t.Fatalf("%s: by hand is other %s", what, by)
		}
		return 0
	}
	if by := differ(x.state(), ahead); by != "" {
		t.Fatalf("%s changes %s", what, by)
	}
	h = x.p.Whole(func() api.Errno {
		x.p.Delete("a")
		x.p.Write(7, 3, text(99))
		x.p.Create("more", 1000)
		_, e := do.call(x)
		return max(e, 1)
	})
	if by := differ(x.state(), ahead); by != "" || h == api.OK {
		t.Fatalf("%s in a Whole tells %d, and changes %s", what, h, by)
	}
	return 1
}

// spoil: a twin in which something is spoilt of the volume "c".
func (g ground) spoil(do func(x *stand, v api.Volume)) *stand {
	g.t.Helper()
	x, _ := g.twin(240)
	v, e := x.p.Get("c")
	x.ok("Get", e)
	do(x, v)
	return x
}

// Those of the layers: what is read of a spoilt volume; of others all is read as ever.
func TestReadSpoilt(t *testing.T) {
	want := map[string]api.Errno{"a root of noughts": api.ErrSum, "a root of another kind": api.ErrKind, "a root of no node": api.ErrForm, "a leaf of noughts": api.OK,
		"a root that goes round": api.ErrPool, "a block beyond the disk": api.ErrNone, "a block beyond all disks": api.ErrNone, "a block that is not counted": api.OK,
		"an entry of noughts": api.ErrSum, "an entry of a root beyond the disk": api.ErrNone, "an entry of a root beyond all disks": api.ErrArg, "an entry of a root that is not counted": api.ErrSum,
		"an entry of a superblock as root": api.ErrSum, "an entry of a page as root": api.ErrKind, "an entry of the directory as root": api.OK}
	g := bases()[2].ground(t, manners[1])
	for _, spoil := range spoils {
		x := g.spoil(spoil.do)
		b, e := x.p.Read(3, 0)
		if e != want[spoil.what] || (e == api.OK) != (len(b) == 256) {
			t.Errorf("%s: Read tells %v, %d, want %d", spoil.what, b, e, want[spoil.what])
		}
		x.has(7, 1, text(71))
	}
	x := g.spoil(spoils[3].do)
	failed := 0
	for block := range uint64(20) {
		if _, e := x.p.Read(3, block); e == api.ErrSum {
			failed++
		} else {
			x.ok("Read", e)
		}
	}
	if failed == 0 || failed > 8 {
		t.Errorf("of a leaf of noughts %d blocks can't be read", failed)
	}
}

// wild: a pool whose blocks have nodes, entries and bytes that were thrown together, and whose counts are no better.
func wild(t *testing.T, r *rand.Rand) *stand {
	t.Helper()
	x := anew(t, 64, []int{1, 4, 64}[r.IntN(3)])
	x.fill(r.IntN(20))
	if r.IntN(2) == 0 {
		x.commit()
	}
	for at := uint64(4); at < 64; at++ {
		switch r.IntN(8) {
		case 0, 1, 2, 3:
			x.ok("Save", x.shelf().Save(at, wildNode(r)))
		case 4, 5, 6:
			v := api.Volume{Id: 1 + r.Uint64N(12), Name: fmt.Sprint("n", r.IntN(12)), Size: r.Uint64N(5000), Root: r.Uint64N(64), Fixed: r.IntN(9) == 0}
			b, e := dir.Put(v)
			x.ok("Put", e)
			x.seal(at, b, api.KindEntry)
		}
		for range r.IntN(4) {
			x.refs().Inc(int(at))
		}
	}
	if r.IntN(3) == 0 {
		x.commit()
		x.fill(x.p.Free() - r.IntN(min(9, x.p.Free()+1)))
	}
	return x
}

// wildNode: one that may be, but hardly stands where it does.
func wildNode(r *rand.Rand) api.Node {
	n := api.Node{Leaf: r.IntN(4) > 0}
	key := r.Uint64N(6)
	for range 1 + r.IntN(api.MaxKeys) {
		n.Keys = append(n.Keys, key)
		val := 4 + r.Uint64N(60)
		if r.IntN(60) == 0 {
			val = []uint64{1, 2, 64, 1 << 31, greatest}[r.IntN(5)]
		}
		n.Vals = append(n.Vals, val)
		key += 1 + r.Uint64N(3)
	}
	return n
}

// wildDir: a directory of entries that stand where it says, over maps that are thrown together.
func (x *stand) wildDir(r *rand.Rand) {
	x.t.Helper()
	n := api.Node{Leaf: true}
	for i, at := range r.Perm(56)[:1+r.IntN(api.MaxKeys)] {
		v := api.Volume{Id: uint64(i + 1), Name: fmt.Sprint("n", i), Size: r.Uint64N(5000), Root: r.Uint64N(64)}
		b, e := dir.Put(v)
		x.ok("Put", e)
		x.seal(uint64(8+at), b, api.KindEntry)
		n.Keys, n.Vals = append(n.Keys, v.Id), append(n.Vals, uint64(8+at))
	}
	x.ok("Save", x.shelf().Save(5, n))
	x.ok("SetDir", x.p.Txn().SetDir(5))
}

// P17.8, R1, R2: of pools that are thrown together each call ends, tells nothing beside an error, and has changed nothing then; a Whole neither.
func TestWild(t *testing.T) {
	for seed := range uint64(8) {
		t.Run(fmt.Sprint(seed), func(t *testing.T) {
			t.Parallel()
			r := numbers(70 + seed)
			told, failed := map[api.Errno]int{}, map[string]int{}
			for n := range 50 {
				x := wild(t, r)
				if n%4 > 0 {
					x.wildDir(r)
				} else {
					x.ok("SetDir", x.p.Txn().SetDir(uint64(4+r.IntN(60))))
				}
				for range 5 {
					x.wildCalls(r, told, failed)
				}
			}
			for _, e := range []api.Errno{api.OK, api.ErrNone, api.ErrThere, api.ErrFull, api.ErrSum, api.ErrKind, api.ErrForm, api.ErrPool, api.ErrRange} {
				if told[e] == 0 {
					t.Errorf("no call told %d: %v", e, told)
				}
			}
			if len(failed) != 11 {
				t.Errorf("what failed: %v", failed)
			}
		})
	}
}

// wildCalls: each call once, of what may be there; behind an error nothing has changed.
func (x *stand) wildCalls(r *rand.Rand, told map[api.Errno]int, failed map[string]int) {
	x.t.Helper()
	a := asked{fmt.Sprint("n", r.IntN(12)), r.Uint64N(14), r.Uint64N(6000), r.Uint64N(20), r.Uint64N(20), text(r.IntN(99)), nil}
	all := calls(x.t, x.p, a)
	all["Whole"] = func() api.Errno {
		return x.p.Whole(func() api.Errno {
			for _, name := range []string{"Delete", "Write", "Discard", "Create", "Snapshot", "Write", "Resize"}[:r.IntN(8)] {
				all[name]()
			}
			return api.ErrForm
		})
	}
	for _, name := range []string{"Get", "ById", "List", "Read", "Whole", "Snapshot", "Write", "Discard", "Resize", "Delete", "Create"} {
		ahead := x.state()
		e := all[name]()
		told[e]++
		if e == api.OK {
			continue
		}
		failed[name]++
		if by := differ(x.state(), ahead); by != "" {
			x.t.Fatalf("%s of %v tells %d, and changes %s", name, a, e, by)
		}
	}
}

// P8: whatever bytes stand on the disk beneath a commit, the pool that is opened answers, and ends.
func TestWildDisk(t *testing.T) {
	r := numbers(8)
	b := bases()[2]
	x, _ := b.built(t, manners[1], 240)
	opened := 0
	for range 300 {
		y := &stand{t: t, d: x.d.Copy()}
		for range 1 + r.IntN(30) {
			at := 6 + r.IntN(80)
			bytes, e := y.d.Read(at)
			y.ok("Read", e)
			switch r.IntN(3) {
			case 0:
				binary.BigEndian.PutUint64(bytes[r.IntN(240):], r.Uint64())
			case 1:
				other, e := y.d.Read(6 + r.IntN(80))
				y.ok("Read", e)
				bytes = other
			case 2:
				bytes[r.IntN(256)] ^= 1 << r.IntN(8)
			}
			y.ok("Write", y.d.Write(at, bytes))
		}
		p, e := txn.Open(y.d, 7)
		if e != api.OK {
			continue
		}
		opened++
		y.p = pool.New(p)
		for _, i := range r.Perm(len(b.tried()))[:9] {
			ahead := y.state()
			if _, e := b.tried()[i].call(y); e != api.OK {
				if by := differ(y.state(), ahead); by != "" {
					t.Fatalf("%s changes %s", b.tried()[i].what, by)
				}
			}
		}
	}
	if opened == 0 {
		t.Errorf("no pool was opened")
	}
}
