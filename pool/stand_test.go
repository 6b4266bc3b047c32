package pool_test

import (
	"bytes"
	"math/rand/v2"
	"reflect"
	"slices"
	"testing"

	"cistern/api"
	"cistern/disk"
	"cistern/pool"
	"cistern/refs"
	"cistern/stamp"
	"cistern/tree"
	"cistern/txn"
)

const (
	greatest   = 1<<64 - 1
	greatestId = 1<<62 - 1
)

// numbers: the same pseudo-random numbers in each run.
func numbers(seed uint64) *rand.Rand { return rand.New(rand.NewPCG(17, seed)) }

// text: bytes of a block; those of two numbers differ in each byte, and none is 0.
func text(n int) []byte {
	b := make([]byte, api.Block)
	for i := range b {
		b[i] = byte(1 + (n*7+i)%255)
	}
	return b
}

// stand: a pool, and the disk that it stands on.
type stand struct {
	t       *testing.T
	d       *disk.Disk
	p       *pool.Pool
	fillers []uint64 // blocks that were handed out, so that they are not free
	roots   []uint64 // maps that somebody else holds, too
}

// anew: an empty pool of so many blocks, over a cache of that room.
func anew(t *testing.T, blocks, room int) *stand {
	t.Helper()
	d, e := disk.New(blocks)
	x := &stand{t: t, d: d}
	x.ok("disk.New", e)
	x.ok("Format", txn.Format(d))
	x.open(room)
	return x
}

// open: the pool of the disk, as it stands there.
func (x *stand) open(room int) {
	x.t.Helper()
	p, e := txn.Open(x.d, room)
	x.ok("Open", e)
	x.p, x.fillers, x.roots = pool.New(p), nil, nil
}

func (x *stand) refs() *refs.Refs   { return x.p.Txn().Refs() }
func (x *stand) shelf() *tree.Shelf { return x.p.Txn().Shelf() }

// ok: that what was called told no error.
func (x *stand) ok(what string, e api.Errno) {
	x.t.Helper()
	if e != api.OK {
		x.t.Fatalf("%s: %d", what, e)
	}
}

// told: that a call told that.
func (x *stand) told(what string, have, want api.Errno) {
	x.t.Helper()
	if have != want {
		x.t.Fatalf("%s tells %d, want %d", what, have, want)
	}
}

// create, snapshot, write, commit: what must go well.
func (x *stand) create(name string, size uint64) uint64 {
	x.t.Helper()
	id, e := x.p.Create(name, size)
	x.ok("Create "+name, e)
	return id
}

func (x *stand) snapshot(name, as string, fixed bool) uint64 {
	x.t.Helper()
	id, e := x.p.Snapshot(name, as, fixed)
	x.ok("Snapshot "+as, e)
	return id
}

func (x *stand) write(id uint64, n int, blocks ...uint64) {
	x.t.Helper()
	for _, block := range blocks {
		x.ok("Write", x.p.Write(id, block, text(n+int(block))))
	}
}

func (x *stand) commit() {
	x.t.Helper()
	x.ok("Commit", x.p.Commit())
}

// has: what a volume's block has.
func (x *stand) has(id, block uint64, want []byte) {
	x.t.Helper()
	if b, e := x.p.Read(id, block); e != api.OK || !bytes.Equal(b, want) {
		x.t.Fatalf("Read(%d, %d) tells %v, %d, want %v", id, block, b, e, want)
	}
}

// fill: so few blocks are free.
func (x *stand) fill(free int) {
	x.t.Helper()
	for x.p.Free() > free {
		at, e := x.refs().Alloc()
		x.ok("Alloc", e)
		x.fillers = append(x.fillers, uint64(at))
	}
}

// put: what stands in a block is written over.
func (x *stand) put(at uint64, b []byte) {
	x.t.Helper()
	x.ok("Put", x.p.Txn().Cache().Put(int(at), b))
}

// seal: a block gets that payload.
func (x *stand) seal(at uint64, payload []byte, kind byte) {
	x.t.Helper()
	b, e := stamp.Seal(payload, int(at), kind)
	x.ok("Seal", e)
	x.put(at, b)
}

// load: the node at a block.
func (x *stand) load(at uint64) api.Node {
	x.t.Helper()
	n, e := x.shelf().Load(at)
	x.ok("Load", e)
	return n
}

// keys: of all keys of the tree at a root, the values.
func (x *stand) keys(root uint64) map[uint64]uint64 {
	x.t.Helper()
	l := map[uint64]uint64{}
	if root == 0 {
		return l
	}
	n := x.load(root)
	for i, val := range n.Vals {
		if n.Leaf {
			l[n.Keys[i]] = val
			continue
		}
		for key, val := range x.keys(val) {
			l[key] = val
		}
	}
	return l
}

// pointed: how often each block is pointed to, by the superblock, the directory, its entries, all maps, and who else holds such.
func (x *stand) pointed() []byte {
	x.t.Helper()
	want := make([]byte, x.d.Blocks())
	for at := range 2 + 2*((len(want)+239)/240) {
		want[at] = 1
	}
	var point func(at uint64, node bool)
	point = func(at uint64, node bool) {
		if at == 0 {
			return
		}
		want[at]++
		if !node || want[at] > 1 {
			return
		}
		n := x.load(at)
		for _, val := range n.Vals {
			point(val, !n.Leaf)
		}
	}
	point(x.p.Txn().Super().Dir, true)
	l, e := x.p.List()
	x.ok("List", e)
	for _, v := range l {
		point(v.Root, true)
	}
	for _, root := range x.roots {
		point(root, true)
	}
	return want
}

// counted: that each block is counted as often as it is pointed to.
func (x *stand) counted(what string) {
	x.t.Helper()
	want := x.pointed()
	for _, at := range x.fillers {
		want[at]++
	}
	for at, have := range x.refs().Counts() {
		if have != want[at] {
			x.t.Fatalf("%s: %d is counted %d times, want %d", what, at, have, want[at])
		}
	}
}

// state: all that a pool tells: what stands now, its counts, which blocks are fresh, how many are free, and what stands in those that are counted.
type state struct {
	Super  api.Super
	Counts []byte
	Fresh  []int
	Free   int
	Blocks map[int]string
}

func (x *stand) state() state {
	x.t.Helper()
	s := x.powerless()
	s.Blocks = map[int]string{}
	for at, count := range s.Counts {
		if count > 0 {
			b, e := x.p.Txn().Cache().Get(at)
			x.ok("Get", e)
			s.Blocks[at] = string(b)
		}
	}
	return s
}

// powerless: as much of it as is told without power.
func (x *stand) powerless() state {
	s := state{Super: x.p.Txn().Super(), Counts: x.refs().Counts(), Free: x.p.Free()}
	for at := range s.Counts {
		if x.refs().Fresh(at) {
			s.Fresh = append(s.Fresh, at)
		}
	}
	return s
}

// differ: how two states do; nothing, if they are the same.
func differ(have, want state) string {
	switch {
	case have.Super != want.Super:
		return "what stands now"
	case !bytes.Equal(have.Counts, want.Counts):
		return "the counts"
	case !slices.Equal(have.Fresh, want.Fresh):
		return "what is fresh"
	case have.Free != want.Free:
		return "what is free"
	case !reflect.DeepEqual(have.Blocks, want.Blocks):
		return "what stands in the blocks"
	}
	return ""
}

// stays: that what is done changes nothing of the pool.
func (x *stand) stays(what string, do func()) {
	x.t.Helper()
	ahead := x.state()
	do()
	if by := differ(x.state(), ahead); by != "" {
		x.t.Fatalf("%s changes %s", what, by)
	}
}
