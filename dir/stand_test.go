package dir_test

import (
	"bytes"
	"encoding/binary"
	"maps"
	"math/rand/v2"
	"reflect"
	"slices"
	"testing"

	"cistern/api"
	"cistern/dir"
	"cistern/disk"
	"cistern/stamp"
	"cistern/txn"
)

const (
	greatest   = 1<<64 - 1
	greatestId = 1<<62 - 1
)

// numbers: the same pseudo-random numbers in each run.
func numbers(seed uint64) *rand.Rand { return rand.New(rand.NewPCG(16, seed)) }

// stand: a pool, and the disk that it stands on.
type stand struct {
	t *testing.T
	d *disk.Disk
	p *txn.Txn
}

// anew: an empty pool of so many blocks, over a cache of that room.
func anew(t *testing.T, blocks, room int) *stand {
	t.Helper()
	d, e := disk.New(blocks)
	x := &stand{t: t, d: d}
	x.ok("disk.New", e)
	x.ok("Format", txn.Format(d))
	x.open(room)
	return x
}

// open: the pool on the disk, as it stands there.
func (x *stand) open(room int) {
	x.t.Helper()
	p, e := txn.Open(x.d, room)
	x.ok("Open", e)
	x.p = p
}

// ok: that what was called told no error.
func (x *stand) ok(what string, e api.Errno) {
	x.t.Helper()
	if e != api.OK {
		x.t.Fatalf("%s: %d", what, e)
	}
}

// volume: one of that number and name; the rest hangs on the number.
func volume(id uint64, name string) api.Volume {
	return api.Volume{Id: id, Name: name, Size: id * 77 % (api.MaxSize + 1), Root: id * 0x9E3779B97F4A7C15, Fixed: id%2 == 0, Origin: id ^ greatest}
}

// entryOf: a volume's entry, by the chapter's words, whether it may be or not.
func entryOf(v api.Volume) []byte {
	var b []byte
	for _, n := range []uint64{v.Id, v.Size, v.Root, v.Origin} {
		b = binary.BigEndian.AppendUint64(b, n)
	}
	fixed := byte(0)
	if v.Fixed {
		fixed = 1
	}
	b = append(b, fixed, byte(len(v.Name)))
	return append(b, v.Name...)
}

// add: these are put in, one behind the other.
func (x *stand) add(l ...api.Volume) {
	x.t.Helper()
	for _, v := range l {
		x.ok("Add", dir.Add(x.p, v))
	}
}

// seal: a block gets that payload.
func (x *stand) seal(at uint64, payload []byte, kind byte) {
	x.t.Helper()
	b, e := stamp.Seal(payload, int(at), kind)
	x.ok("Seal", e)
	x.ok("Put", x.p.Cache().Put(int(at), b))
}

// fill: so few blocks are free.
func (x *stand) fill(free int) {
	x.t.Helper()
	for x.p.Free() > free {
		_, e := x.p.Refs().Alloc()
		x.ok("Alloc", e)
	}
}

// leaves: the blocks of all leaves of the tree at a root, in order.
func (x *stand) leaves(root uint64) []uint64 {
	x.t.Helper()
	if root == 0 {
		return nil
	}
	n, e := x.p.Shelf().Load(root)
	x.ok("Load", e)
	if n.Leaf {
		return []uint64{root}
	}
	var l []uint64
	for _, child := range n.Vals {
		l = append(l, x.leaves(child)...)
	}
	return l
}

// entries: the blocks of all entries of the directory at a root, by their Ids.
func (x *stand) entries(root uint64) map[uint64]uint64 {
	x.t.Helper()
	l := map[uint64]uint64{}
	for _, leaf := range x.leaves(root) {
		n, e := x.p.Shelf().Load(leaf)
		x.ok("Load", e)
		for i, key := range n.Keys {
			l[key] = n.Vals[i]
		}
	}
	return l
}

// counted: that each block is counted as often as the pool's Dir, these roots and values, and all nodes beneath them point to it.
func (x *stand) counted(what string, held ...uint64) {
	x.t.Helper()
	want := make([]byte, x.d.Blocks())
	for at := range 2 + 2*((len(want)+239)/240) {
		want[at] = 1
	}
	var point func(at uint64, node bool)
	point = func(at uint64, node bool) {
		if at == 0 {
			return
		}
		want[at]++
		if !node || want[at] > 1 {
			return
		}
		n, e := x.p.Shelf().Load(at)
		x.ok("Load", e)
		for _, val := range n.Vals {
			point(val, !n.Leaf)
		}
	}
	point(x.p.Super().Dir, true)
	for _, root := range held {
		point(root, true)
	}
	if have := x.p.Refs().Counts(); !bytes.Equal(have, want) {
		x.t.Fatalf("%s: the counts are\n%v, want\n%v", what, have, want)
	}
}

// family: volumes by their numbers, to whom the chapter's words are done.
type family map[uint64]api.Volume

func (f family) add(v api.Volume) api.Errno {
	_, there := f[v.Id]
	switch {
	case !may(v):
		return api.ErrArg
	case there || f.named(v.Name) != 0:
		return api.ErrThere
	case len(f) >= 16:
		return api.ErrFull
	}
	f[v.Id] = v
	return api.OK
}

func (f family) set(v api.Volume) api.Errno {
	_, there := f[v.Id]
	other := f.named(v.Name)
	switch {
	case !may(v):
		return api.ErrArg
	case !there:
		return api.ErrNone
	case other != 0 && other != v.Id:
		return api.ErrThere
	}
	f[v.Id] = v
	return api.OK
}

func (f family) remove(id uint64) api.Errno {
	if _, there := f[id]; !there {
		return api.ErrNone
	}
	delete(f, id)
	return api.OK
}

// named: the number of the volume of that name; 0: there is none.
func (f family) named(name string) uint64 {
	for id, v := range f {
		if v.Name == name {
			return id
		}
	}
	return 0
}

// ids: the volumes' numbers, rising.
func (f family) ids() []uint64 { return slices.Sorted(maps.Keys(f)) }

// list: the volumes by their names.
func (f family) list() []api.Volume {
	l := slices.Collect(maps.Values(f))
	slices.SortFunc(l, func(a, b api.Volume) int { return bytes.Compare([]byte(a.Name), []byte(b.Name)) })
	return l
}

// tells: that the pool's directory tells of these volumes, and of no others.
func (x *stand) tells(what string, f family) {
	x.t.Helper()
	ids := f.ids()
	for i, id := range ids {
		v := f[id]
		if have, e := dir.ById(x.p, id); have != v || e != api.OK {
			x.t.Fatalf("%s: ById(%d) tells %v, %d, want %v", what, id, have, e, v)
		}
		if have, e := dir.ByName(x.p, v.Name); have != v || e != api.OK {
			x.t.Fatalf("%s: ByName(%q) tells %v, %d, want %v", what, v.Name, have, e, v)
		}
		if i == 0 || i == len(ids)-1 {
			x.tellsNone(what, f, v)
		}
	}
	if l, e := dir.List(x.p); !slices.Equal(l, f.list()) || e != api.OK {
		x.t.Fatalf("%s: List tells %v, %d, want %v", what, l, e, f.list())
	}
}

// tellsNone: that no volumes are told of whose names and numbers stand beside those of one.
func (x *stand) tellsNone(what string, f family, v api.Volume) {
	x.t.Helper()
	for _, name := range []string{v.Name + "x", v.Name[1:]} {
		if have, e := dir.ByName(x.p, name); f.named(name) == 0 && (have != api.Volume{} || e != api.ErrNone) {
			x.t.Fatalf("%s: ByName(%q) tells %v, %d", what, name, have, e)
		}
	}
	for _, id := range []uint64{v.Id - 1, v.Id + 1, v.Id | 1<<63} {
		_, there := f[id]
		if have, e := dir.ById(x.p, id); !there && (have != api.Volume{} || e != api.ErrNone) {
			x.t.Fatalf("%s: ById(%d) tells %v, %d", what, id, have, e)
		}
	}
}

// state: all that a pool tells: what stands now, its counts, which blocks are fresh, and what stands in those that are counted.
type state struct {
	Super  api.Super
	Counts []byte
	Fresh  []int
	Blocks map[int]string
}

func (x *stand) state() state {
	x.t.Helper()
	s := state{Super: x.p.Super(), Counts: x.p.Refs().Counts(), Blocks: map[int]string{}}
	for at, count := range s.Counts {
		if x.p.Refs().Fresh(at) {
			s.Fresh = append(s.Fresh, at)
		}
		if count > 0 {
			b, e := x.p.Cache().Get(at)
			x.ok("Get", e)
			s.Blocks[at] = string(b)
		}
	}
	return s
}

// stays: that what is done changes nothing of the pool.
func (x *stand) stays(what string, do func()) {
	x.t.Helper()
	ahead := x.state()
	do()
	if behind := x.state(); !reflect.DeepEqual(ahead, behind) {
		x.t.Fatalf("%s: the pool was\n%v, and is\n%v", what, ahead, behind)
	}
}
