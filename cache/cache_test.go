package cache_test

import (
	"bytes"
	"math"
	"math/rand/v2"
	"slices"
	"testing"

	"cistern/api"
	"cistern/cache"
	"cistern/disk"
)

// plain: a cache as the chapter's words tell it: a list of the blocks that are held, the one used the longest ago first.
type plain struct {
	d    *disk.Disk
	most int
	held []plainBlock
}

type plainBlock struct {
	at    int
	b     []byte
	dirty bool
}

func (p *plain) asked(at int) api.Errno {
	switch {
	case p.d.Off():
		return api.ErrOff
	case at < 0 || at >= p.d.Blocks():
		return api.ErrNone
	}
	return api.OK
}

func (p *plain) find(at int) int {
	return slices.IndexFunc(p.held, func(x plainBlock) bool { return x.at == at })
}

// room: what making room for a block tells.
func (p *plain) room() api.Errno {
	if len(p.held) < p.most {
		return api.OK
	}
	if first := p.held[0]; first.dirty {
		if e := p.d.Write(first.at, first.b); e != api.OK {
			return e
		}
	}
	p.held = p.held[1:]
	return api.OK
}

func (p *plain) get(at int) ([]byte, api.Errno) {
	if e := p.asked(at); e != api.OK {
		return nil, e
	}
	i := p.find(at)
	if i < 0 {
		if e := p.room(); e != api.OK {
			return nil, e
		}
		b, _ := p.d.Read(at)
		p.held = append(p.held, plainBlock{at: at, b: b})
		return b, api.OK
	}
	x := p.held[i]
	p.held = append(slices.Delete(slices.Clone(p.held), i, i+1), x)
	return x.b, api.OK
}

func (p *plain) put(at int, b []byte) api.Errno {
	if e := p.asked(at); e != api.OK {
		return e
	}
	if len(b) != 256 {
		return api.ErrArg
	}
	if i := p.find(at); i >= 0 {
		p.held = slices.Delete(slices.Clone(p.held), i, i+1)
	} else if e := p.room(); e != api.OK {
		return e
	}
	p.held = append(p.held, plainBlock{at, bytes.Clone(b), true})
	return api.OK
}

func (p *plain) flush() api.Errno {
	if p.d.Off() {
		return api.ErrOff
	}
	for _, at := range p.dirty() {
		i := p.find(at)
		if e := p.d.Write(at, p.held[i].b); e != api.OK {
			return e
		}
		p.held[i].dirty = false
	}
	return api.OK
}

func (p *plain) dirty() []int {
	var l []int
	for _, x := range p.held {
		if x.dirty {
			l = append(l, x.at)
		}
	}
	slices.Sort(l)
	return l
}

// pair: a cache, and what it is held against, each over a disk of its own.
type pair struct {
	d *disk.Disk
	c *cache.Cache
	p *plain
}

func newPair(t *testing.T, blocks, n int) *pair {
	t.Helper()
	d := laid(t, blocks)
	c := over(t, d, n)
	return &pair{d, c, &plain{d: d.Copy(), most: n}}
}

// alike: that both tell the same, and that their disks have the same, byte by byte, in flight and lasting.
func (x *pair) alike(t *testing.T) {
	t.Helper()
	if got, want := x.c.Dirty(), x.p.dirty(); !slices.Equal(got, want) {
		t.Errorf("Dirty = %d, want %d", got, want)
	}
	if got, want := x.c.Held(), len(x.p.held); got != want {
		t.Errorf("Held = %d, want %d", got, want)
	}
	if got, want := x.d.Flight(), x.p.d.Flight(); got != want {
		t.Errorf("%d in flight, want %d", got, want)
	}
	if got, want := x.d.Off(), x.p.d.Off(); got != want {
		t.Errorf("Off = %v, want %v", got, want)
	}
}

// sameDisks: that the disks have the same, whatever lasts of what is in flight.
func (x *pair) sameDisks(t *testing.T, r *rand.Rand) {
	t.Helper()
	for range 3 {
		one, two, picks := x.d.Copy(), x.p.d.Copy(), noise(r, x.d.Flight())
		for i := range picks {
			picks[i] %= 4
		}
		one.Crash(picks)
		two.Crash(picks)
		for at := range one.Blocks() {
			reads(t, one, at, content(two, at))
		}
	}
}

func (x *pair) get(t *testing.T, at int) {
	t.Helper()
	got, e := x.c.Get(at)
	want, f := x.p.get(at)
	if e != f || !bytes.Equal(got, want) {
		t.Errorf("Get(%d) = % x, %d, want % x, %d", at, got, e, want, f)
	}
}

func (x *pair) put(t *testing.T, at int, b []byte) {
	t.Helper()
	told(t, "Put", x.c.Put(at, b), x.p.put(at, b))
}

// laid: a disk of so many blocks, each with bytes of its own that last.
func laid(t *testing.T, blocks int) *disk.Disk {
	t.Helper()
	d, e := disk.New(blocks)
	if e != api.OK {
		t.Fatalf("disk.New(%d) = %d", blocks, e)
	}
	for at := range blocks {
		told(t, "the disk's Write", d.Write(at, there(at)), api.OK)
	}
	told(t, "the disk's Barrier", d.Barrier(), api.OK)
	return d
}

// there: what laid lays on the block at.
func there(at int) []byte {
	b := full(byte(at))
	b[0], b[1], b[255] = byte(at>>8), 0xdd, byte(at>>4)
	return b
}

// over: a cache over d.
func over(t *testing.T, d *disk.Disk, n int) *cache.Cache {
	t.Helper()
	c, e := cache.New(d, n)
	if c == nil || e != api.OK {
		t.Fatalf("New(%d) = %v, %d", n, c, e)
	}
	return c
}

// full: a block's bytes, all the same.
func full(x byte) []byte { return bytes.Repeat([]byte{x}, 256) }

// content: what a disk reads.
func content(d *disk.Disk, at int) []byte {
	b, _ := d.Read(at)
	return b
}

// told: that a call told the error that it should.
func told(t *testing.T, what string, got, want api.Errno) {
	t.Helper()
	if got != want {
		t.Errorf("%s = %d, want %d", what, got, want)
	}
}

// gets: that a block is got so.
func gets(t *testing.T, c *cache.Cache, at int, want []byte) {
	t.Helper()
	if b, e := c.Get(at); e != api.OK || !bytes.Equal(b, want) {
		t.Errorf("Get(%d) = % x, %d, want % x", at, b, e, want)
	}
}

// refuses: that a block is not got, by that error, and that nothing stands beside it.
func refuses(t *testing.T, c *cache.Cache, at int, want api.Errno) {
	t.Helper()
	if b, e := c.Get(at); e != want || len(b) != 0 {
		t.Errorf("Get(%d) = % x, %d, want none, %d", at, b, e, want)
	}
}

// puts: that a block is put.
func puts(t *testing.T, c *cache.Cache, at int, b []byte) {
	t.Helper()
	if e := c.Put(at, b); e != api.OK {
		t.Errorf("Put(%d) = %d", at, e)
	}
}

// reads: that the disk has that.
func reads(t *testing.T, d *disk.Disk, at int, want []byte) {
	t.Helper()
	if b, e := d.Read(at); e != api.OK || !bytes.Equal(b, want) {
		t.Errorf("the disk's Read(%d) = % x, %d, want % x", at, b, e, want)
	}
}

// holds: how many blocks are held, which are dirty, and how many blocks' sectors are in flight.
func holds(t *testing.T, c *cache.Cache, d *disk.Disk, held, written int, dirty ...int) {
	t.Helper()
	if c.Held() != held || !slices.Equal(c.Dirty(), dirty) || d.Flight() != 4*written {
		t.Errorf("%d held, dirty %d, %d in flight, want %d, %d, %d", c.Held(), c.Dirty(), d.Flight(), held, dirty, 4*written)
	}
}

// numbers: the same pseudo-random numbers in each run.
func numbers(seed uint64) *rand.Rand { return rand.New(rand.NewPCG(5, seed)) }

// noise: n bytes out of r.
func noise(r *rand.Rand, n int) []byte {
	b := make([]byte, n)
	for i := range b {
		b[i] = byte(r.Uint32())
	}
	return b
}

// burn: the power of d goes.
func burn(d *disk.Disk) {
	d.Fuse(1)
	d.Barrier()
}

// TestNew: P5.1, a cache of each number of blocks that may be, over small disks and great ones, that holds nothing.
func TestNew(t *testing.T) {
	for _, blocks := range []int{1, 2, 60, 1024} {
		d := laid(t, blocks)
		for n := 1; n <= 1024; n++ {
			holds(t, over(t, d, n), d, 0, 0)
		}
	}
}

// TestNewOfANumberThatMayNotBe: P5.1.
func TestNewOfANumberThatMayNotBe(t *testing.T) {
	d := laid(t, 2)
	for _, n := range []int{0, -1, -2, -1024, 1025, 1026, 65537, 1 << 32, 1<<32 + 5, math.MaxInt, math.MinInt, math.MinInt + 1} {
		if c, e := cache.New(d, n); c != nil || e != api.ErrArg {
			t.Errorf("New(%d) = %v, %d", n, c, e)
		}
	}
}

// TestNewOfNoDisk: the words of ErrNil, which is ahead of ErrArg.
func TestNewOfNoDisk(t *testing.T) {
	for _, d := range []*disk.Disk{nil, {}, new(disk.Disk)} {
		for _, n := range []int{1, 2, 1024, 0, -1, 1025, math.MinInt} {
			if c, e := cache.New(d, n); c != nil || e != api.ErrNil {
				t.Errorf("New(%d) = %v, %d", n, c, e)
			}
		}
	}
}

// TestNewDoesNotAskForPower: P5.1, and of a number that may not be it tells ErrArg all the same.
func TestNewDoesNotAskForPower(t *testing.T) {
	d := laid(t, 2)
	burn(d)
	for _, n := range []int{0, 1025} {
		if c, e := cache.New(d, n); c != nil || e != api.ErrArg {
			t.Errorf("New(%d) = %v, %d", n, c, e)
		}
	}
	c := over(t, d, 1)
	refuses(t, c, 0, api.ErrOff)
	told(t, "Put", c.Put(0, full(1)), api.ErrOff)
	told(t, "Flush", c.Flush(), api.ErrOff)
	holds(t, c, d, 0, 0)
	d.Crash(nil)
	gets(t, c, 0, there(0))
	puts(t, c, 1, full(1))
	told(t, "Flush", c.Flush(), api.OK)
	reads(t, d, 1, full(1))
}

// TestGreatest: P5.1 and P5.2, n blocks are held, and no more, by caches of all sizes, up to the greatest.
func TestGreatest(t *testing.T) {
	for _, n := range []int{1, 2, 3, 7, 60, 1023, 1024} {
		d := laid(t, 1024)
		c := over(t, d, n)
		for at := range 1024 {
			puts(t, c, at, full(byte(at)))
			if c.Held() != min(at+1, n) || len(c.Dirty()) != min(at+1, n) || d.Flight() != 4*max(0, at+1-n) {
				t.Fatalf("a cache of %d: behind %d blocks %d are held, %d dirty, %d in flight", n, at+1, c.Held(), len(c.Dirty()), d.Flight())
			}
		}
		for at := range 1024 - n {
			reads(t, d, at, full(byte(at)))
		}
		for at := 1024 - n; at < 1024; at++ {
			reads(t, d, at, there(at))
			gets(t, c, at, full(byte(at)))
		}
	}
}

// TestExample: the chapter's examples, one behind the other.
func TestExample(t *testing.T) {
	d, _ := disk.New(4)
	c := over(t, d, 2)
	puts(t, c, 0, full(1))
	puts(t, c, 1, full(2))
	holds(t, c, d, 2, 0, 0, 1)
	gets(t, c, 0, full(1))
	gets(t, c, 2, full(0))
	holds(t, c, d, 2, 1, 0)
	told(t, "Flush", c.Flush(), api.OK)
	holds(t, c, d, 2, 2)
	gets(t, c, 1, full(2))
	puts(t, c, 3, full(3))
	c.Drop()
	gets(t, c, 3, full(0))
	refuses(t, c, 4, api.ErrNone)
	told(t, "Put of 255 bytes", c.Put(0, full(1)[:255]), api.ErrArg)
}

// TestGetReadsOnce: P5.2, a block that is held is told out of memory, whatever becomes of the disk's; one that is not is read.
func TestGetReadsOnce(t *testing.T) {
	d := laid(t, 3)
	c := over(t, d, 2)
	gets(t, c, 1, there(1))
	holds(t, c, d, 1, 0)
	told(t, "the disk's Write", d.Write(1, full(9)), api.OK)
	gets(t, c, 1, there(1))
	gets(t, c, 0, there(0))
	gets(t, c, 2, there(2)) // the block 1 goes
	gets(t, c, 1, full(9))  // with what is in flight
	holds(t, c, d, 2, 1)
	d.Crash(nil)
	gets(t, c, 1, full(9))
	c.Drop()
	gets(t, c, 1, there(1))
}

// TestGetIsAUse: the words, of a block that is held: another one goes.
func TestGetIsAUse(t *testing.T) {
	d := laid(t, 5)
	c := over(t, d, 3)
	for at := range 3 {
		puts(t, c, at, full(byte(100+at)))
	}
	gets(t, c, 0, full(100))
	puts(t, c, 3, full(103))
	holds(t, c, d, 3, 1, 0, 2, 3)
	reads(t, d, 1, full(101))
	gets(t, c, 2, full(102))
	gets(t, c, 4, there(4))
	holds(t, c, d, 3, 2, 2, 3)
	reads(t, d, 0, full(100))
}

// TestPutIsAUse: the words, of a block that is held: another one goes.
func TestPutIsAUse(t *testing.T) {
	d := laid(t, 5)
	c := over(t, d, 3)
	for at := range 3 {
		gets(t, c, at, there(at))
	}
	puts(t, c, 0, full(100))
	puts(t, c, 1, full(101))
	puts(t, c, 3, full(103)) // the block 2 goes, which is not dirty
	holds(t, c, d, 3, 0, 0, 1, 3)
	puts(t, c, 0, full(110))
	gets(t, c, 4, there(4))
	holds(t, c, d, 3, 1, 0, 3)
	reads(t, d, 1, full(101))
	reads(t, d, 0, there(0))
}

// TestOtherCallsUseNothing: the words: only Get and Put do, and only those that tell OK.
func TestOtherCallsUseNothing(t *testing.T) {
	for i, call := range []func(c *cache.Cache, d *disk.Disk){
		func(c *cache.Cache, d *disk.Disk) { c.Flush() },
		func(c *cache.Cache, d *disk.Disk) { c.Dirty(); c.Held() },
		func(c *cache.Cache, d *disk.Disk) { c.Put(0, nil) },
		func(c *cache.Cache, d *disk.Disk) { c.Put(0, full(1)[:255]) },
		func(c *cache.Cache, d *disk.Disk) { c.Put(-1, full(1)) },
		func(c *cache.Cache, d *disk.Disk) { c.Get(3) },
		func(c *cache.Cache, d *disk.Disk) { burn(d); c.Get(0); d.Crash([]byte{1, 1, 1, 1}) },
		func(c *cache.Cache, d *disk.Disk) { burn(d); c.Put(0, full(1)); d.Crash([]byte{1, 1, 1, 1}) },
	} {
		d := laid(t, 3)
		c := over(t, d, 2)
		puts(t, c, 0, full(100))
		puts(t, c, 1, full(101))
		call(c, d)
		gets(t, c, 2, there(2))
		if c.Held() != 2 || slices.Contains(c.Dirty(), 0) {
			t.Errorf("call %d: %d held, dirty %d", i, c.Held(), c.Dirty())
		}
		reads(t, d, 0, full(100))
		if i > 0 {
			reads(t, d, 1, there(1))
		}
	}
}

// TestOneBlock: a cache of one holds just the last one that was used.
func TestOneBlock(t *testing.T) {
	d := laid(t, 3)
	c := over(t, d, 1)
	puts(t, c, 0, full(100))
	holds(t, c, d, 1, 0, 0)
	gets(t, c, 1, there(1))
	holds(t, c, d, 1, 1)
	puts(t, c, 1, full(101))
	puts(t, c, 1, full(111))
	holds(t, c, d, 1, 1, 1)
	puts(t, c, 2, full(102))
	holds(t, c, d, 1, 2, 2)
	gets(t, c, 0, full(100))
	gets(t, c, 1, full(111))
	gets(t, c, 2, full(102))
	holds(t, c, d, 1, 3)
}

// TestCleanOnesGoUnwritten: the words: only what is dirty is written when it goes.
func TestCleanOnesGoUnwritten(t *testing.T) {
	d := laid(t, 60)
	c := over(t, d, 2)
	for at := range 60 {
		gets(t, c, at, there(at))
	}
	holds(t, c, d, 2, 0)
	puts(t, c, 0, full(100))
	told(t, "Flush", c.Flush(), api.OK)
	for at := 1; at < 60; at++ {
		gets(t, c, at, there(at))
	}
	holds(t, c, d, 2, 1)
	gets(t, c, 0, full(100))
}

// TestNoSuchBlock: P5.2 and P5.3, and that nothing has changed; ErrNone is ahead of ErrArg, and of what room tells.
func TestNoSuchBlock(t *testing.T) {
	for _, blocks := range []int{1, 2, 60, 1024} {
		d := laid(t, blocks)
		c := over(t, d, 1)
		puts(t, c, blocks-1, full(7))
		d.Fuse(1)
		for _, at := range []int{blocks, blocks + 1, 1024, 1025, -1, -2, -blocks, 1 << 32, 1 << 56, math.MaxInt, math.MinInt, math.MinInt + 1} {
			refuses(t, c, at, api.ErrNone)
			told(t, "Put", c.Put(at, full(9)), api.ErrNone)
			told(t, "Put of none", c.Put(at, nil), api.ErrNone)
			told(t, "Put of 257 bytes", c.Put(at, make([]byte, 257)), api.ErrNone)
		}
		holds(t, c, d, 1, 0, blocks-1)
		gets(t, c, blocks-1, full(7))
		if d.Off() {
			t.Error("the power is off")
		}
	}
}

// TestBytesThatAreNoBlock: P5.3, and that nothing has changed; ErrArg is ahead of what room tells.
func TestBytesThatAreNoBlock(t *testing.T) {
	d := laid(t, 3)
	c := over(t, d, 1)
	puts(t, c, 0, full(7))
	d.Fuse(1)
	for _, n := range []int{0, 1, 63, 64, 128, 240, 252, 255, 257, 258, 511, 512, 1024} {
		for at := range 3 {
			told(t, "Put", c.Put(at, bytes.Repeat([]byte{9}, n)), api.ErrArg)
		}
	}
	told(t, "Put of none", c.Put(0, nil), api.ErrArg)
	told(t, "Put of 255 with room", c.Put(1, full(9)[:255]), api.ErrArg)
	holds(t, c, d, 1, 0, 0)
	gets(t, c, 0, full(7))
	if d.Off() {
		t.Error("the power is off")
	}
}

// TestErrorsOfNoPower: ErrOff is ahead of ErrNone and ErrArg, for what is held as for what is not; nothing has changed.
func TestErrorsOfNoPower(t *testing.T) {
	d := laid(t, 4)
	c := over(t, d, 2)
	puts(t, c, 1, full(7))
	gets(t, c, 2, there(2))
	burn(d)
	for range 2 {
		for _, at := range []int{0, 1, 2, 3, 4, -1, math.MaxInt, math.MinInt} {
			refuses(t, c, at, api.ErrOff)
			told(t, "Put", c.Put(at, full(9)), api.ErrOff)
			told(t, "Put of none", c.Put(at, nil), api.ErrOff)
		}
		told(t, "Flush", c.Flush(), api.ErrOff)
		holds(t, c, d, 2, 0, 1)
	}
	d.Crash(nil)
	gets(t, c, 1, full(7))
	told(t, "Flush", c.Flush(), api.OK)
	reads(t, d, 1, full(7))
}

// TestFlushOfNothingAsksForPower: P5.4, as all calls that tell errors do.
func TestFlushOfNothingAsksForPower(t *testing.T) {
	d := laid(t, 2)
	c := over(t, d, 2)
	told(t, "Flush", c.Flush(), api.OK)
	gets(t, c, 0, there(0))
	d.Fuse(1)
	for range 5 {
		told(t, "Flush", c.Flush(), api.OK) // nothing is dirty: the fuse stays
	}
	if d.Off() {
		t.Error("the power is off")
	}
	d.Barrier()
	told(t, "Flush", c.Flush(), api.ErrOff)
}

// TestPowerGoesWhileRoomIsMade: the words: that is the call's error, and the block stays as it is, the next one to go.
func TestPowerGoesWhileRoomIsMade(t *testing.T) {
	for kind := range 2 {
		d := laid(t, 4)
		c := over(t, d, 2)
		puts(t, c, 0, full(100))
		puts(t, c, 1, full(101))
		d.Fuse(1)
		if kind == 0 {
			refuses(t, c, 2, api.ErrOff)
		} else {
			told(t, "Put", c.Put(2, full(102)), api.ErrOff)
		}
		holds(t, c, d, 2, 0, 0, 1)
		if !d.Off() {
			t.Error("the power is on")
		}
		d.Crash(nil)
		reads(t, d, 0, there(0))
		gets(t, c, 3, there(3)) // now the block 0 goes
		holds(t, c, d, 2, 1, 1)
		reads(t, d, 0, full(100))
		gets(t, c, 1, full(101))
		gets(t, c, 2, there(2))
		holds(t, c, d, 2, 1, 1)
	}
}

// TestFuseIsForWrites: what makes no room, and what lets a clean block go, burns nothing.
func TestFuseIsForWrites(t *testing.T) {
	d := laid(t, 4)
	c := over(t, d, 2)
	gets(t, c, 0, there(0))
	d.Fuse(1)
	puts(t, c, 1, full(101))
	gets(t, c, 2, there(2)) // the block 0 goes, which is clean
	gets(t, c, 1, full(101))
	puts(t, c, 1, full(111))
	puts(t, c, 3, full(103)) // the block 2
	holds(t, c, d, 2, 0, 1, 3)
	refuses(t, c, 0, api.ErrOff) // the block 1, which is dirty
	holds(t, c, d, 2, 0, 1, 3)
}

// TestFlush: P5.4, by rising places, whatever the order in which they were put; all of them are held as before.
func TestFlush(t *testing.T) {
	r := numbers(1)
	for range 50 {
		d := laid(t, 20)
		c := over(t, d, 20)
		want := d.Copy()
		for at := range 20 {
			gets(t, c, at, there(at))
		}
		var dirty []int
		for _, at := range r.Perm(20)[:r.IntN(21)] {
			puts(t, c, at, full(byte(100+at)))
			dirty = append(dirty, at)
		}
		slices.Sort(dirty)
		holds(t, c, d, 20, 0, dirty...)
		told(t, "Flush", c.Flush(), api.OK)
		holds(t, c, d, 20, len(dirty))
		for _, at := range dirty {
			told(t, "the disk's Write", want.Write(at, full(byte(100+at))), api.OK)
		}
		picks := noise(r, d.Flight())
		one, two := d.Copy(), want.Copy()
		one.Crash(picks)
		two.Crash(picks) // the order in flight tells which sectors these picks are for
		for at := range 20 {
			reads(t, one, at, content(two, at))
			gets(t, c, at, content(want, at))
		}
		told(t, "Flush", c.Flush(), api.OK)
		holds(t, c, d, 20, len(dirty))
	}
}

// TestFlushHasNoBarrier: P5.4, what it writes is in flight, and may be lost.
func TestFlushHasNoBarrier(t *testing.T) {
	d := laid(t, 2)
	c := over(t, d, 2)
	puts(t, c, 0, full(100))
	told(t, "Flush", c.Flush(), api.OK)
	holds(t, c, d, 1, 1)
	d.Crash(nil)
	reads(t, d, 0, there(0))
	gets(t, c, 0, full(100))
	told(t, "Flush", c.Flush(), api.OK)
	holds(t, c, d, 1, 0) // it is not dirty any more, though what was written is lost
}

// TestFlushUpToTheFirstRefused: P5.4, that one and those behind it stay dirty; those ahead are written.
func TestFlushUpToTheFirstRefused(t *testing.T) {
	places := []int{1, 2, 4, 7, 8}
	for n := 1; n <= len(places)+2; n++ {
		d := laid(t, 9)
		c := over(t, d, 6)
		for _, at := range []int{7, 2, 8, 1, 4} {
			puts(t, c, at, full(byte(100+at)))
		}
		gets(t, c, 3, there(3))
		d.Fuse(n)
		done, want := min(n-1, len(places)), api.ErrOff
		if n > len(places) {
			want = api.OK
		}
		told(t, "Flush", c.Flush(), want)
		holds(t, c, d, 6, done, places[done:]...)
		d.Crash(bytes.Repeat([]byte{1}, 20))
		for i, at := range places {
			if i < done {
				reads(t, d, at, full(byte(100+at)))
			} else {
				reads(t, d, at, there(at))
			}
			gets(t, c, at, full(byte(100+at)))
		}
		told(t, "Flush", c.Flush(), api.OK)
		holds(t, c, d, 6, len(places)-done)
	}
}

// TestPutBehindAFlush: P5.4, a block that is put again is dirty again, be its bytes the same; what is only got is not.
func TestPutBehindAFlush(t *testing.T) {
	d := laid(t, 3)
	c := over(t, d, 2)
	for i := range 4 {
		puts(t, c, 1, full(9))
		holds(t, c, d, 1, i, 1)
		told(t, "Flush", c.Flush(), api.OK)
		holds(t, c, d, 1, i+1)
		gets(t, c, 1, full(9))
		told(t, "Flush", c.Flush(), api.OK)
		holds(t, c, d, 1, i+1)
	}
}

// TestPutOfWhatIsThere: P5.3, the same bytes as the disk's make a block dirty, too.
func TestPutOfWhatIsThere(t *testing.T) {
	d := laid(t, 3)
	c := over(t, d, 2)
	puts(t, c, 0, there(0))
	gets(t, c, 1, there(1))
	puts(t, c, 1, there(1))
	holds(t, c, d, 2, 0, 0, 1)
	told(t, "Flush", c.Flush(), api.OK)
	holds(t, c, d, 2, 2)
}

// TestDrop: P5.4, nothing is held any more, nothing is written; with no power, too; and it goes on as a new one.
func TestDrop(t *testing.T) {
	for _, power := range []bool{true, false} {
		d := laid(t, 6)
		c := over(t, d, 3)
		for range 3 {
			puts(t, c, 0, full(100))
			puts(t, c, 5, full(105))
			gets(t, c, 2, there(2))
			if !power {
				burn(d)
			}
			c.Drop()
			holds(t, c, d, 0, 0)
			c.Drop()
			holds(t, c, d, 0, 0)
			d.Crash(nil)
			told(t, "Flush", c.Flush(), api.OK)
			holds(t, c, d, 0, 0)
			gets(t, c, 0, there(0))
			gets(t, c, 5, there(5))
			gets(t, c, 1, there(1))
			gets(t, c, 0, there(0))
			gets(t, c, 2, there(2)) // the block 5 goes
			holds(t, c, d, 3, 0)
			told(t, "the disk's Write", d.Write(5, full(55)), api.OK)
			gets(t, c, 5, full(55))
			d.Crash(nil)
			c.Drop()
		}
	}
}

// TestNoCache: none, and one that New did not make; ErrNil is ahead of all errors.
func TestNoCache(t *testing.T) {
	for _, c := range []*cache.Cache{nil, {}, new(cache.Cache)} {
		for _, at := range []int{0, 1, -1, math.MaxInt, math.MinInt} {
			refuses(t, c, at, api.ErrNil)
			told(t, "Put", c.Put(at, full(1)), api.ErrNil)
			told(t, "Put of none", c.Put(at, nil), api.ErrNil)
		}
		told(t, "Flush", c.Flush(), api.ErrNil)
		c.Drop()
		if c.Held() != 0 || len(c.Dirty()) != 0 {
			t.Errorf("%d held, dirty %d", c.Held(), c.Dirty())
		}
	}
}

// TestSharesNothing: R3, what is handed in is only read and not kept, what is answered is new memory.
func TestSharesNothing(t *testing.T) {
	d := laid(t, 3)
	c := over(t, d, 2)
	room := bytes.Repeat([]byte{1}, 300)
	puts(t, c, 0, room[:256])
	if !bytes.Equal(room, bytes.Repeat([]byte{1}, 300)) {
		t.Errorf("what was handed in is changed: % x", room)
	}
	clear(room)
	want := [][]byte{full(1), there(1)}
	for at, b := range want {
		for range 3 {
			got, _ := c.Get(at)
			clear(got)
			clear(append(got, full(5)...))
			gets(t, c, at, b)
		}
	}
	one, _ := c.Get(0)
	two, _ := c.Get(0)
	one[0]++
	if one[0] == two[0] {
		t.Error("two answers share memory")
	}
	puts(t, c, 1, full(2))
	if !bytes.Equal(two, full(1)) {
		t.Errorf("an answer is changed by a Put: % x", two)
	}
	l := c.Dirty()
	l[0], l[1] = 7, 8
	if !slices.Equal(c.Dirty(), []int{0, 1}) {
		t.Errorf("Dirty = %d", c.Dirty())
	}
	told(t, "Flush", c.Flush(), api.OK)
	puts(t, c, 0, full(3))
	reads(t, d, 0, full(1))
}

// TestCachesAreApart: R3 and R7, two caches share their disk, and nothing else.
func TestCachesAreApart(t *testing.T) {
	d := laid(t, 2)
	one, two := over(t, d, 2), over(t, d, 2)
	puts(t, one, 0, full(100))
	gets(t, two, 0, there(0))
	told(t, "Flush", one.Flush(), api.OK)
	gets(t, two, 0, there(0))
	holds(t, two, d, 1, 1)
	two.Drop()
	holds(t, one, d, 1, 1)
	gets(t, two, 0, full(100))
}

// step: one call of both, most of which may be.
func (x *pair) step(t *testing.T, r *rand.Rand) {
	t.Helper()
	blocks := x.d.Blocks()
	switch n := r.IntN(40); {
	case n < 14:
		x.get(t, r.IntN(blocks))
	case n < 28:
		x.put(t, r.IntN(blocks), noise(r, 256))
	case n < 30:
		x.get(t, r.IntN(blocks+2)-1)
		x.put(t, r.IntN(blocks+2)-1, noise(r, 255+r.IntN(3)))
	case n < 34:
		told(t, "Flush", x.c.Flush(), x.p.flush())
	case n < 35:
		x.c.Drop()
		x.p.held = nil
	case n < 36:
		told(t, "the disk's Barrier", x.d.Barrier(), x.p.d.Barrier())
	case n < 38:
		fuse := r.IntN(7)
		x.d.Fuse(fuse)
		x.p.d.Fuse(fuse)
	default:
		picks := noise(r, r.IntN(30))
		for i := range picks {
			picks[i] >>= r.IntN(9)
		}
		x.d.Crash(picks)
		x.p.d.Crash(picks)
	}
}

// TestAnyCalls: P5.1 to P5.5, held against the chapter's words.
func TestAnyCalls(t *testing.T) {
	for seed := range uint64(300) {
		r := numbers(1000 + seed)
		x := newPair(t, 1+r.IntN(12), 1+r.IntN(8))
		for range 150 {
			x.step(t, r)
			x.alike(t)
		}
		x.sameDisks(t, r)
		if t.Failed() {
			t.Fatalf("seed %d", seed)
		}
	}
}

// TestManyUses: the same, of a cache of many blocks, so that those that wait are many.
func TestManyUses(t *testing.T) {
	r := numbers(2)
	x := newPair(t, 200, 100)
	for i := range 6000 {
		at := r.IntN(200) * r.IntN(200) / 200 // some are used oftener than others
		if i%3 == 0 {
			x.put(t, at, noise(r, 256))
		} else {
			x.get(t, at)
		}
		if i%400 == 0 {
			told(t, "Flush", x.c.Flush(), x.p.flush())
		}
		x.alike(t)
		if t.Failed() {
			t.Fatalf("call %d", i)
		}
	}
	x.sameDisks(t, r)
}

// TestNobodySeesTheCache: P5.6, what is got is what was put last, or what the disk had, by caches of all sizes alike.
func TestNobodySeesTheCache(t *testing.T) {
	for _, n := range []int{1, 2, 3, 5, 8, 1024} {
		r := numbers(3)
		d := laid(t, 8)
		c := over(t, d, n)
		var want [8][]byte
		for at := range want {
			want[at] = there(at)
		}
		for range 2000 {
			at := r.IntN(8)
			switch r.IntN(9) {
			case 0, 1, 2, 3:
				want[at] = noise(r, 256)
				puts(t, c, at, want[at])
			case 4:
				told(t, "Flush", c.Flush(), api.OK)
			case 5:
				told(t, "Flush", c.Flush(), api.OK)
				c.Drop()
			default:
				gets(t, c, at, want[at])
			}
		}
		told(t, "Flush", c.Flush(), api.OK)
		for at, b := range want {
			reads(t, d, at, b)
		}
	}
}

// TestNothingIsWrittenButByFlush: P5.7, as long as no more than n blocks are used; and each by one Flush once at most.
func TestNothingIsWrittenButByFlush(t *testing.T) {
	r := numbers(4)
	for _, n := range []int{1, 2, 5, 16, 64} {
		d := laid(t, 64)
		c := over(t, d, n)
		places := r.Perm(64)[:n]
		for range 30 {
			put := make(map[int]int)
			for range r.IntN(3 * n) {
				at := places[r.IntN(n)]
				if r.IntN(2) == 0 {
					puts(t, c, at, noise(r, 256))
					put[at]++
				} else if _, e := c.Get(at); e != api.OK {
					t.Errorf("Get(%d) = %d", at, e)
				}
				if d.Flight() != 0 {
					t.Fatalf("a cache of %d: %d in flight", n, d.Flight())
				}
			}
			told(t, "Flush", c.Flush(), api.OK)
			if d.Flight() != 4*len(put) {
				t.Fatalf("a cache of %d: %d in flight behind a Flush of %d", n, d.Flight(), len(put))
			}
			told(t, "the disk's Barrier", d.Barrier(), api.OK)
		}
	}
}

// TestAnswersAreWhole: Get answers a block's bytes, and no room behind them.
func TestAnswersAreWhole(t *testing.T) {
	d := laid(t, 1)
	c := over(t, d, 1)
	for range 2 {
		if b, _ := c.Get(0); len(b) != 256 || cap(b) != 256 {
			t.Errorf("%d bytes, room for %d", len(b), cap(b))
		}
		puts(t, c, 0, full(1))
	}
}
