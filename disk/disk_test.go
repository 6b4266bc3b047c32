package disk_test

import (
	"bytes"
	"math"
	"math/rand/v2"
	"slices"
	"testing"

	"cistern/api"
	"cistern/disk"
)

// plain: a disk as the chapter's words tell it: what lasts, and a list of what is in flight, gone through whenever something is asked.
type plain struct {
	lasts  []byte
	flight []plainWrite
	fuse   int
	off    bool
}

// plainWrite: 64 bytes that go to the disk's byte at.
type plainWrite struct {
	at int
	b  []byte
}

func newPlain(blocks int) *plain { return &plain{lasts: make([]byte, 256*blocks)} }

// burnt: whether the fuse lets a call not be done that would tell OK.
func (p *plain) burnt() bool {
	if p.fuse == 0 {
		return false
	}
	p.fuse--
	p.off = p.fuse == 0
	return p.off
}

func (p *plain) write(at int, b []byte) api.Errno {
	switch {
	case p.off:
		return api.ErrOff
	case at < 0 || at >= len(p.lasts)/256:
		return api.ErrNone
	case len(b) != 256:
		return api.ErrArg
	case p.burnt():
		return api.ErrOff
	}
	for i := 0; i < 256; i += 64 {
		p.flight = append(p.flight, plainWrite{256*at + i, bytes.Clone(b[i : i+64])})
	}
	return api.OK
}

func (p *plain) read(at int) ([]byte, api.Errno) {
	switch {
	case p.off:
		return nil, api.ErrOff
	case at < 0 || at >= len(p.lasts)/256:
		return nil, api.ErrNone
	}
	all := bytes.Clone(p.lasts)
	for _, w := range p.flight {
		copy(all[w.at:], w.b)
	}
	return all[256*at : 256*at+256], api.OK
}

func (p *plain) barrier() api.Errno {
	if p.off || p.burnt() {
		return api.ErrOff
	}
	for _, w := range p.flight {
		copy(p.lasts[w.at:], w.b)
	}
	p.flight = nil
	return api.OK
}

func (p *plain) crash(picks []byte) {
	for k, w := range p.flight {
		n := 0
		if k < len(picks) && picks[k] == 1 {
			n = 64
		} else if k < len(picks) && picks[k] > 1 {
			n = (int(picks[k]) - 2) % 65
		}
		copy(p.lasts[w.at:], w.b[:n])
	}
	p.flight, p.fuse, p.off = nil, 0, false
}

func (p *plain) copied() *plain {
	out := *p
	out.lasts, out.flight = bytes.Clone(p.lasts), slices.Clone(p.flight)
	return &out
}

// made: a disk of so many blocks.
func made(t *testing.T, blocks int) *disk.Disk {
	t.Helper()
	d, e := disk.New(blocks)
	if d == nil || e != api.OK {
		t.Fatalf("New(%d) = %v, %d", blocks, d, e)
	}
	return d
}

// full: a block's bytes, all the same.
func full(x byte) []byte { return bytes.Repeat([]byte{x}, 256) }

// quarters: a block's bytes, the same in each sector.
func quarters(a, b, c, d byte) []byte {
	var out []byte
	for _, x := range []byte{a, b, c, d} {
		out = append(out, bytes.Repeat([]byte{x}, 64)...)
	}
	return out
}

// told: that a call told the error that it should.
func told(t *testing.T, what string, got, want api.Errno) {
	t.Helper()
	if got != want {
		t.Errorf("%s = %d, want %d", what, got, want)
	}
}

// holds: that a block reads so.
func holds(t *testing.T, d *disk.Disk, at int, want []byte) {
	t.Helper()
	if b, e := d.Read(at); !bytes.Equal(b, want) || e != api.OK {
		t.Errorf("Read(%d) = % x, %d, want % x", at, b, e, want)
	}
}

// alike: that a disk answers what the plain one does, whatever is only asked.
func alike(t *testing.T, d *disk.Disk, p *plain) {
	t.Helper()
	blocks := len(p.lasts) / 256
	if d.Blocks() != blocks || d.Flight() != len(p.flight) || d.Off() != p.off {
		t.Errorf("%d blocks, %d in flight, off %v, want %d, %d, %v", d.Blocks(), d.Flight(), d.Off(), blocks, len(p.flight), p.off)
	}
	for _, at := range append([]int{math.MinInt, -1, blocks, blocks + 1, math.MaxInt}, upTo(blocks)...) {
		got, e := d.Read(at)
		want, f := p.read(at)
		if e != f || !bytes.Equal(got, want) {
			t.Errorf("Read(%d) = % x, %d, want % x, %d", at, got, e, want, f)
		}
	}
}

func upTo(n int) []int {
	l := make([]int, n)
	for i := range l {
		l[i] = i
	}
	return l
}

// numbers: the same pseudo-random numbers in each run.
func numbers(seed uint64) *rand.Rand { return rand.New(rand.NewPCG(3, seed)) }

// noise: n bytes out of r.
func noise(r *rand.Rand, n int) []byte {
	b := make([]byte, n)
	for i := range b {
		b[i] = byte(r.Uint32())
	}
	return b
}

// TestNew: P3.1, a disk of noughts, of each number of blocks.
func TestNew(t *testing.T) {
	for n := 1; n <= 1024; n++ {
		d := made(t, n)
		if d.Blocks() != n || d.Off() || d.Flight() != 0 {
			t.Errorf("New(%d): %d blocks, off %v, %d in flight", n, d.Blocks(), d.Off(), d.Flight())
		}
		for _, at := range []int{0, n / 2, n - 1} {
			holds(t, d, at, make([]byte, 256))
		}
		if b, e := d.Read(n); len(b) != 0 || e != api.ErrNone {
			t.Errorf("New(%d): Read(%d) = % x, %d", n, n, b, e)
		}
	}
}

// TestNewOfANumberThatMayNotBe: P3.1.
func TestNewOfANumberThatMayNotBe(t *testing.T) {
	for _, n := range []int{0, -1, -2, -1024, 1025, 1026, 2048, 65537, 1 << 32, 1<<32 + 5, 1 << 62, math.MaxInt, math.MinInt, math.MinInt + 1} {
		if d, e := disk.New(n); d != nil || e != api.ErrArg {
			t.Errorf("New(%d) = %v, %d", n, d, e)
		}
	}
}

// TestNewHasNoFuse: P3.1, however much is written.
func TestNewHasNoFuse(t *testing.T) {
	d := made(t, 1)
	for i := range 3000 {
		told(t, "Write", d.Write(0, full(byte(i))), api.OK)
	}
	if d.Off() || d.Flight() != 12000 {
		t.Errorf("off %v, %d in flight", d.Off(), d.Flight())
	}
}

// TestEachByteOfEachBlock: P3.2, a block's bytes stand in its own place, in flight and behind a barrier, of the greatest disk too.
func TestEachByteOfEachBlock(t *testing.T) {
	d, r := made(t, 1024), numbers(1)
	var want [][]byte
	for at := range 1024 {
		want = append(want, noise(r, 256))
		told(t, "Write", d.Write(at, want[at]), api.OK)
		if d.Flight() != 4*(at+1) {
			t.Fatalf("%d blocks: %d in flight", at+1, d.Flight())
		}
	}
	for at, b := range want {
		holds(t, d, at, b)
	}
	told(t, "Barrier", d.Barrier(), api.OK)
	for at, b := range want {
		holds(t, d, at, b)
	}
	d.Crash(bytes.Repeat([]byte{1}, 5000))
	for at, b := range want {
		holds(t, d, at, b)
	}
}

// TestExample: the chapter's examples, one behind the other.
func TestExample(t *testing.T) {
	d := made(t, 2)
	told(t, "Write", d.Write(1, full(1)), api.OK)
	if d.Flight() != 4 {
		t.Errorf("%d in flight", d.Flight())
	}
	holds(t, d, 1, full(1))
	d.Crash([]byte{1, 66, 0, 1})
	holds(t, d, 1, quarters(1, 1, 0, 1))
	holds(t, d, 0, full(0))

	told(t, "Write", d.Write(0, full(2)), api.OK)
	told(t, "Barrier", d.Barrier(), api.OK)
	told(t, "Write", d.Write(0, full(3)), api.OK)
	d.Crash([]byte{2})
	holds(t, d, 0, full(2))

	d.Fuse(2)
	told(t, "Write", d.Write(0, full(4)), api.OK)
	told(t, "Barrier", d.Barrier(), api.ErrOff)
	if !d.Off() {
		t.Error("the power is on")
	}
}

// TestReadTellsTheLast: P3.2, of several writes in flight the last one, whatever lasts.
func TestReadTellsTheLast(t *testing.T) {
	d := made(t, 3)
	for i := byte(1); i < 10; i++ {
		told(t, "Write", d.Write(1, full(i)), api.OK)
		told(t, "Write", d.Write(2, full(100+i)), api.OK)
		holds(t, d, 0, full(0))
		holds(t, d, 1, full(i))
		holds(t, d, 2, full(100+i))
	}
	told(t, "Barrier", d.Barrier(), api.OK)
	if d.Flight() != 0 {
		t.Errorf("%d in flight", d.Flight())
	}
	holds(t, d, 1, full(9))
	d.Crash(nil)
	holds(t, d, 1, full(9))
	holds(t, d, 2, full(109))
	told(t, "Write", d.Write(1, full(77)), api.OK)
	holds(t, d, 1, full(77))
	d.Crash(nil)
	holds(t, d, 1, full(9))
}

// TestBarrierOfNothing: P3.2, as often as you like.
func TestBarrierOfNothing(t *testing.T) {
	d := made(t, 1)
	for range 3 {
		told(t, "Barrier", d.Barrier(), api.OK)
		holds(t, d, 0, full(0))
	}
	if d.Flight() != 0 || d.Off() {
		t.Errorf("%d in flight, off %v", d.Flight(), d.Off())
	}
}

// TestNoSuchBlock: P3.2, and that nothing has changed.
func TestNoSuchBlock(t *testing.T) {
	for _, n := range []int{1, 2, 60, 1024} {
		d := made(t, n)
		told(t, "Write", d.Write(n-1, full(7)), api.OK)
		for _, at := range []int{n, n + 1, 1024, 1025, -1, -2, -n, 1 << 32, 1 << 62, 1 << 56, math.MaxInt, math.MinInt, math.MinInt + 1} {
			if at == n-1 {
				continue
			}
			if b, e := d.Read(at); len(b) != 0 || e != api.ErrNone {
				t.Errorf("%d blocks: Read(%d) = % x, %d", n, at, b, e)
			}
			told(t, "Write", d.Write(at, full(9)), api.ErrNone)
			told(t, "Write of fewer bytes", d.Write(at, nil), api.ErrNone) // ErrNone is ahead of ErrArg
		}
		if d.Flight() != 4 {
			t.Errorf("%d blocks: %d in flight", n, d.Flight())
		}
		holds(t, d, n-1, full(7))
	}
}

// TestBytesThatAreNoBlock: P3.2, and that nothing has changed.
func TestBytesThatAreNoBlock(t *testing.T) {
	d := made(t, 2)
	told(t, "Write", d.Write(0, full(7)), api.OK)
	for _, n := range []int{0, 1, 63, 64, 65, 128, 192, 240, 252, 255, 257, 258, 320, 511, 512, 1024} {
		told(t, "Write", d.Write(0, bytes.Repeat([]byte{9}, n)), api.ErrArg)
		told(t, "Write", d.Write(1, bytes.Repeat([]byte{9}, n)), api.ErrArg)
	}
	told(t, "Write of none", d.Write(0, nil), api.ErrArg)
	told(t, "Write of 255 with room", d.Write(0, full(9)[:255]), api.ErrArg)
	if d.Flight() != 4 {
		t.Errorf("%d in flight", d.Flight())
	}
	holds(t, d, 0, full(7))
	holds(t, d, 1, full(0))
}

// TestErrorsOfNoPower: ErrOff is ahead of ErrNone and ErrArg; nothing is told but that.
func TestErrorsOfNoPower(t *testing.T) {
	d := made(t, 2)
	told(t, "Write", d.Write(1, full(5)), api.OK)
	d.Fuse(1)
	told(t, "Write", d.Write(1, full(6)), api.ErrOff)
	for range 3 {
		for _, at := range []int{0, 1, 2, -1, math.MaxInt} {
			if b, e := d.Read(at); len(b) != 0 || e != api.ErrOff {
				t.Errorf("Read(%d) = % x, %d", at, b, e)
			}
			told(t, "Write", d.Write(at, full(6)), api.ErrOff)
			told(t, "Write of none", d.Write(at, nil), api.ErrOff)
		}
		told(t, "Barrier", d.Barrier(), api.ErrOff)
	}
	if d.Blocks() != 2 || d.Flight() != 4 || !d.Off() {
		t.Errorf("%d blocks, %d in flight, off %v", d.Blocks(), d.Flight(), d.Off())
	}
	d.Crash([]byte{1, 0, 1, 0})
	holds(t, d, 1, quarters(5, 0, 5, 0))
}

// TestFuse: P3.1, of each length: so many calls but one are done, be they writes or barriers.
func TestFuse(t *testing.T) {
	for n := 1; n <= 40; n++ {
		for kind := range 3 {
			d, p := made(t, 2), newPlain(2)
			d.Fuse(n)
			p.fuse = n
			for i := 1; i <= n+3; i++ {
				want := api.OK
				if i >= n {
					want = api.ErrOff
				}
				if kind == 0 || kind == 2 && i%2 == 0 {
					told(t, "Barrier", d.Barrier(), want)
					p.barrier()
				} else {
					told(t, "Write", d.Write(i%2, full(byte(i))), want)
					p.write(i%2, full(byte(i)))
				}
				alike(t, d, p)
			}
			d.Crash([]byte{1, 1, 1, 1})
			p.crash([]byte{1, 1, 1, 1})
			alike(t, d, p)
		}
	}
}

// TestFuseIsNotForWhatFails: the words: only a Write and a Barrier that would tell OK make it less; no Read, and nothing that is only asked.
func TestFuseIsNotForWhatFails(t *testing.T) {
	d := made(t, 2)
	d.Fuse(2)
	for range 5 {
		told(t, "Write", d.Write(2, full(1)), api.ErrNone)
		told(t, "Write", d.Write(-1, full(1)), api.ErrNone)
		told(t, "Write", d.Write(0, full(1)[1:]), api.ErrArg)
		holds(t, d, 0, full(0))
		d.Read(2)
		d.Blocks()
		d.Flight()
		d.Copy()
		if d.Off() {
			t.Fatal("the power is off")
		}
	}
	told(t, "Write", d.Write(0, full(1)), api.OK)
	told(t, "Write", d.Write(2, full(1)), api.ErrNone)
	told(t, "Write", d.Write(0, nil), api.ErrArg)
	if d.Off() {
		t.Fatal("the power is off")
	}
	told(t, "Barrier", d.Barrier(), api.ErrOff)
	if !d.Off() || d.Flight() != 4 {
		t.Errorf("off %v, %d in flight", d.Off(), d.Flight())
	}
}

// TestFuseBurnsOnce: what burns it is not done; behind a Crash there is none.
func TestFuseBurnsOnce(t *testing.T) {
	d := made(t, 1)
	d.Fuse(1)
	told(t, "Write", d.Write(0, full(1)), api.ErrOff)
	if d.Flight() != 0 {
		t.Errorf("%d in flight", d.Flight())
	}
	d.Crash([]byte{1, 1, 1, 1})
	holds(t, d, 0, full(0))
	for i := range 100 {
		told(t, "Write", d.Write(0, full(byte(i))), api.OK)
		told(t, "Barrier", d.Barrier(), api.OK)
	}
	holds(t, d, 0, full(99))
}

// TestFuseSetAnew: P3.1, in the place of the one that there was; below 1, none.
func TestFuseSetAnew(t *testing.T) {
	for _, x := range []struct {
		sets []int
		done int // calls that are done; -1: all
	}{
		{[]int{1}, 0},
		{[]int{1, 3}, 2},
		{[]int{3, 1}, 0},
		{[]int{5, 2}, 1},
		{[]int{2, 2}, 1},
		{[]int{2, 0}, -1},
		{[]int{1, -1}, -1},
		{[]int{1, math.MinInt}, -1},
		{[]int{0}, -1},
		{[]int{-7}, -1},
		{[]int{math.MinInt, 2}, 1},
		{[]int{-3, 4}, 3},
		{[]int{math.MaxInt}, -1},
		{[]int{math.MaxInt, 1}, 0},
		{[]int{1 << 32}, -1},
		{[]int{1<<32 + 1}, -1},
	} {
		d := made(t, 1)
		for _, n := range x.sets {
			d.Fuse(n)
		}
		for i := range 20 {
			want := api.OK
			if x.done >= 0 && i >= x.done {
				want = api.ErrOff
			}
			told(t, "Write", d.Write(0, full(1)), want)
		}
		if d.Off() != (x.done >= 0) {
			t.Errorf("fuses of %d: off %v", x.sets, d.Off())
		}
	}
}

// TestFuseSetOnTheWay: a fuse that has burnt in part is replaced whole.
func TestFuseSetOnTheWay(t *testing.T) {
	d := made(t, 1)
	d.Fuse(3)
	told(t, "Write", d.Write(0, full(1)), api.OK)
	told(t, "Barrier", d.Barrier(), api.OK)
	d.Fuse(2)
	told(t, "Write", d.Write(0, full(2)), api.OK)
	d.Fuse(0)
	for range 9 {
		told(t, "Barrier", d.Barrier(), api.OK)
	}
	d.Fuse(1)
	told(t, "Barrier", d.Barrier(), api.ErrOff)
}

// TestFuseWithoutPower: it puts no power on, and Crash takes it away, as it does with one that still burns.
func TestFuseWithoutPower(t *testing.T) {
	for _, n := range []int{0, 1, 2, 5, -1} {
		d := made(t, 1)
		d.Fuse(1)
		told(t, "Barrier", d.Barrier(), api.ErrOff)
		d.Fuse(n)
		told(t, "Write", d.Write(0, full(1)), api.ErrOff)
		if !d.Off() {
			t.Errorf("Fuse(%d): the power is on", n)
		}
		d.Crash(nil)
		d.Fuse(n + 3)
		d.Crash(nil)
		for range 9 {
			told(t, "Barrier", d.Barrier(), api.OK)
		}
		if d.Off() {
			t.Errorf("Fuse(%d): the power is off", n)
		}
	}
}

// TestCrashOfEachPick: P3.3, each pick for each sector of a block.
func TestCrashOfEachPick(t *testing.T) {
	old, young := noise(numbers(2), 256), noise(numbers(3), 256)
	for i := range 256 {
		young[i] |= 1
		old[i] &= 0xfe // each byte tells which of the two it is
	}
	for sector := range 4 {
		for pick := range 256 {
			d := made(t, 2)
			told(t, "Write", d.Write(1, old), api.OK)
			told(t, "Barrier", d.Barrier(), api.OK)
			told(t, "Write", d.Write(1, young), api.OK)
			picks := make([]byte, sector+1)
			picks[sector] = byte(pick)
			d.Crash(picks)
			n := (pick - 2) % 65
			if pick < 2 {
				n = 64 * pick
			}
			want := bytes.Clone(old)
			copy(want[64*sector:], young[64*sector:64*sector+n])
			holds(t, d, 1, want)
			holds(t, d, 0, full(0))
			if d.Flight() != 0 || d.Off() {
				t.Errorf("%d in flight, off %v", d.Flight(), d.Off())
			}
		}
	}
}

// TestCrashOfTheNamedPicks: P3.3, the same by hand.
func TestCrashOfTheNamedPicks(t *testing.T) {
	for _, x := range []struct {
		pick byte
		n    int
	}{{0, 0}, {1, 64}, {2, 0}, {3, 1}, {65, 63}, {66, 64}, {67, 0}, {68, 1}, {130, 63}, {131, 64}, {132, 0}, {197, 0}, {255, 58}} {
		d := made(t, 1)
		told(t, "Write", d.Write(0, full(1)), api.OK)
		d.Crash([]byte{0, 0, x.pick})
		want := full(0)
		copy(want[128:], full(1)[:x.n])
		holds(t, d, 0, want)
	}
}

// TestCrashByFewerAndMorePicks: P3.3, what there is no pick for is not done; what there is no write for says nothing.
func TestCrashByFewerAndMorePicks(t *testing.T) {
	for n := range 13 {
		d := made(t, 2)
		told(t, "Write", d.Write(1, full(1)), api.OK)
		told(t, "Write", d.Write(0, full(2)), api.OK)
		d.Crash(bytes.Repeat([]byte{1}, n))
		first, second := full(0), full(0)
		copy(first, full(1)[:min(64*n, 256)])
		copy(second, full(2)[:max(min(64*n, 512)-256, 0)])
		holds(t, d, 1, first)
		holds(t, d, 0, second)
		told(t, "Write", d.Write(0, full(3)), api.OK)
		d.Crash(nil) // the picks that were too many are forgotten
		holds(t, d, 0, second)
	}
	d := made(t, 1)
	d.Crash([]byte{1, 1, 1, 1, 1})
	d.Crash(nil)
	holds(t, d, 0, full(0))
}

// TestCrashOfSeveralWritesOfOneSector: P3.3, each one over what lasts then.
func TestCrashOfSeveralWritesOfOneSector(t *testing.T) {
	for _, x := range []struct {
		picks [3]byte // of the writes of one block, in its first sector
		want  [3]byte // of the sector's first, second and later bytes
	}{
		{[3]byte{1, 1, 1}, [3]byte{3, 3, 3}},
		{[3]byte{1, 1, 0}, [3]byte{2, 2, 2}},
		{[3]byte{1, 0, 0}, [3]byte{1, 1, 1}},
		{[3]byte{0, 1, 0}, [3]byte{2, 2, 2}},
		{[3]byte{0, 0, 1}, [3]byte{3, 3, 3}},
		{[3]byte{0, 0, 0}, [3]byte{9, 9, 9}},
		{[3]byte{1, 4, 3}, [3]byte{3, 2, 1}},
		{[3]byte{1, 3, 4}, [3]byte{3, 3, 1}},
		{[3]byte{0, 4, 3}, [3]byte{3, 2, 9}},
		{[3]byte{4, 0, 3}, [3]byte{3, 1, 9}},
		{[3]byte{3, 1, 2}, [3]byte{2, 2, 2}},
		{[3]byte{4, 3, 67}, [3]byte{2, 1, 9}},
		{[3]byte{66, 69, 68}, [3]byte{3, 2, 1}},
	} {
		d := made(t, 1)
		told(t, "Write", d.Write(0, full(9)), api.OK)
		told(t, "Barrier", d.Barrier(), api.OK)
		picks := make([]byte, 12)
		for i := range 3 {
			told(t, "Write", d.Write(0, full(byte(i+1))), api.OK)
			picks[4*i] = x.picks[i]
		}
		d.Crash(picks)
		want := full(9)
		want[0], want[1] = x.want[0], x.want[1]
		copy(want[2:64], full(x.want[2]))
		holds(t, d, 0, want)
	}
}

// TestCopy: P3.3, a copy has all the same: what lasts, what is in flight, the fuse, the power.
func TestCopy(t *testing.T) {
	d := made(t, 2)
	told(t, "Write", d.Write(0, full(1)), api.OK)
	told(t, "Barrier", d.Barrier(), api.OK)
	told(t, "Write", d.Write(0, full(2)), api.OK)
	told(t, "Write", d.Write(1, full(3)), api.OK)
	d.Fuse(2)
	c := d.Copy()
	if c == nil || c == d || c.Blocks() != 2 || c.Flight() != 8 || c.Off() {
		t.Fatalf("Copy = %v", c)
	}
	told(t, "the copy's Barrier", c.Copy().Barrier(), api.OK)
	told(t, "the copy's Write", c.Write(0, full(4)), api.OK)
	told(t, "the copy's Barrier", c.Barrier(), api.ErrOff)
	if off := c.Copy(); !off.Off() || off.Flight() != 12 {
		t.Errorf("the copy of one without power: off %v, %d in flight", off.Off(), off.Flight())
	}
	if d.Off() || d.Flight() != 8 {
		t.Errorf("off %v, %d in flight", d.Off(), d.Flight())
	}
	c.Crash([]byte{0, 1, 0, 0, 1, 0, 0, 0, 0, 0, 1})
	holds(t, c, 0, quarters(1, 2, 4, 1))
	holds(t, c, 1, quarters(3, 0, 0, 0))
	holds(t, d, 0, full(2))
	holds(t, d, 1, full(3))
	told(t, "Barrier", d.Barrier(), api.OK)
	holds(t, c, 0, quarters(1, 2, 4, 1))
	told(t, "Barrier", d.Barrier(), api.ErrOff)
	if c.Off() {
		t.Error("the copy's power went")
	}
}

// TestCopiesLiveApart: P3.3, both are written to, in flight and lastingly, and neither knows of the other.
func TestCopiesLiveApart(t *testing.T) {
	r := numbers(4)
	for range 200 {
		d, p := made(t, 3), newPlain(3)
		for range r.IntN(6) {
			step(t, r, d, p)
		}
		c, q := d.Copy(), p.copied()
		alike(t, c, q)
		for range 12 {
			if r.IntN(2) == 0 {
				step(t, r, d, p)
			} else {
				step(t, r, c, q)
			}
			alike(t, d, p)
			alike(t, c, q)
		}
	}
}

// step: one call of both disks, most of which may be.
func step(t *testing.T, r *rand.Rand, d *disk.Disk, p *plain) {
	t.Helper()
	blocks := len(p.lasts) / 256
	switch n := r.IntN(20); {
	case n < 11:
		at, b := r.IntN(blocks), noise(r, 256)
		told(t, "Write", d.Write(at, b), p.write(at, b))
	case n < 12:
		at, b := r.IntN(blocks+2)-1, noise(r, 255+r.IntN(3))
		told(t, "Write", d.Write(at, b), p.write(at, b))
	case n < 16:
		told(t, "Barrier", d.Barrier(), p.barrier())
	case n < 18:
		picks := noise(r, r.IntN(30))
		for i := range picks {
			picks[i] >>= r.IntN(9) // so that 0 and 1 come often
		}
		d.Crash(picks)
		p.crash(picks)
	default:
		fuse := r.IntN(9) - 1
		d.Fuse(fuse)
		p.fuse = max(fuse, 0)
	}
}

// TestAnyCalls: P3.1 to P3.3, held against the chapter's words.
func TestAnyCalls(t *testing.T) {
	for seed := range uint64(150) {
		r := numbers(seed)
		blocks := 1 + r.IntN(5)
		d, p := made(t, blocks), newPlain(blocks)
		for range 120 {
			step(t, r, d, p)
			alike(t, d, p)
		}
		if t.Failed() {
			t.Fatalf("seed %d", seed)
		}
	}
}

// TestNoDisk: P3.4, a nil disk, and one that New did not make.
func TestNoDisk(t *testing.T) {
	for _, d := range []*disk.Disk{nil, {}, new(disk.Disk)} {
		for _, n := range []int{0, 1, 2, -1} {
			d.Fuse(n)
			d.Crash([]byte{1, 2, 3})
			d.Crash(nil)
			for _, at := range []int{0, 1, -1, math.MaxInt} {
				told(t, "Write", d.Write(at, full(1)), api.ErrNil)
				told(t, "Write of none", d.Write(at, nil), api.ErrNil)
				if b, e := d.Read(at); len(b) != 0 || e != api.ErrNil {
					t.Errorf("Read(%d) = % x, %d", at, b, e)
				}
			}
			told(t, "Barrier", d.Barrier(), api.ErrNil)
			if d.Blocks() != 0 || d.Flight() != 0 || !d.Off() || d.Copy() != nil {
				t.Errorf("%d blocks, %d in flight, off %v, a copy %v", d.Blocks(), d.Flight(), d.Off(), d.Copy())
			}
		}
	}
}

// TestSharesNothing: R3, what is handed in is only read and not kept, what is answered is new memory.
func TestSharesNothing(t *testing.T) {
	d := made(t, 2)
	room := bytes.Repeat([]byte{1}, 300)
	told(t, "Write", d.Write(0, room[:256]), api.OK)
	if !bytes.Equal(room, bytes.Repeat([]byte{1}, 300)) {
		t.Errorf("what was handed in is changed: % x", room)
	}
	clear(room)
	holds(t, d, 0, full(1))
	for range 2 { // in flight, and lasting
		for range 2 {
			b, _ := d.Read(0)
			clear(b)
			b = append(b, full(5)...)
			clear(b)
		}
		holds(t, d, 0, full(1))
		holds(t, d, 1, full(0))
		told(t, "Barrier", d.Barrier(), api.OK)
	}
	told(t, "Write", d.Write(0, full(2)), api.OK)
	picks := []byte{1, 0, 3, 4, 5, 6}
	d.Crash(picks)
	if string(picks) != "\x01\x00\x03\x04\x05\x06" {
		t.Errorf("what was handed in is changed: % x", picks)
	}
	one, _ := d.Read(0)
	two, _ := d.Read(0)
	one[0]++
	if one[0] == two[0] {
		t.Error("two answers share memory")
	}
}

// TestDisksAreApart: R7, what is done to one disk says nothing of another.
func TestDisksAreApart(t *testing.T) {
	c, d := made(t, 1), made(t, 1)
	told(t, "Write", c.Write(0, full(1)), api.OK)
	c.Fuse(1)
	told(t, "Barrier", c.Barrier(), api.ErrOff)
	holds(t, d, 0, full(0))
	told(t, "Barrier", d.Barrier(), api.OK)
	if d.Flight() != 0 || d.Off() {
		t.Errorf("%d in flight, off %v", d.Flight(), d.Off())
	}
}

// TestWhatABarrierKept: P3.5, it stays in each sector that was not written since, whatever the picks.
func TestWhatABarrierKept(t *testing.T) {
	r := numbers(5)
	for range 300 {
		d := made(t, 4)
		var kept [4][]byte
		for at := range kept {
			kept[at] = noise(r, 256)
			told(t, "Write", d.Write(at, noise(r, 256)), api.OK)
			told(t, "Write", d.Write(at, kept[at]), api.OK)
		}
		told(t, "Barrier", d.Barrier(), api.OK)
		written := make(map[int]int)
		for range 4 {
			for range r.IntN(3) {
				at := r.IntN(4)
				told(t, "Write", d.Write(at, noise(r, 256)), api.OK)
				written[at]++
			}
			if r.IntN(2) == 0 {
				d.Fuse(1)
				told(t, "Barrier", d.Barrier(), api.ErrOff)
			}
			d.Crash(noise(r, r.IntN(20)))
			for at, b := range kept {
				if written[at] == 0 {
					holds(t, d, at, b)
				}
			}
		}
	}
}

// TestEachSectorByItself: P3.6, behind a crash a sector is what it was with the beginnings of some of its own writes over it; what befalls the others says nothing.
func TestEachSectorByItself(t *testing.T) {
	r := numbers(6)
	for range 300 {
		d := made(t, 2)
		was := [2][]byte{noise(r, 256), noise(r, 256)}
		for at, b := range was {
			told(t, "Write", d.Write(at, b), api.OK)
		}
		told(t, "Barrier", d.Barrier(), api.OK)
		var ats []int
		var texts [][]byte
		for range 1 + r.IntN(5) {
			at, b := r.IntN(2), noise(r, 256)
			told(t, "Write", d.Write(at, b), api.OK)
			ats, texts = append(ats, at), append(texts, b)
		}
		picks := noise(r, 4*len(ats))
		d.Crash(picks)
		for at := range 2 {
			got, _ := d.Read(at)
			for sector := range 4 {
				from, to := 64*sector, 64*sector+64
				want := bytes.Clone(was[at][from:to])
				for i, b := range texts {
					if pick := int(picks[4*i+sector]); ats[i] == at && pick == 1 {
						copy(want, b[from:to])
					} else if ats[i] == at && pick > 1 {
						copy(want, b[from:from+(pick-2)%65])
					}
				}
				if !bytes.Equal(got[from:to], want) {
					t.Errorf("block %d, sector %d: % x, want % x", at, sector, got[from:to], want)
				}
			}
		}
	}
}

// TestManyInFlight: that a long way without a barrier does not slow reading down beyond use.
func TestManyInFlight(t *testing.T) {
	d := made(t, 8)
	for i := range 20000 {
		told(t, "Write", d.Write(i%8, full(byte(i))), api.OK)
		holds(t, d, i%8, full(byte(i)))
	}
	if d.Flight() != 80000 {
		t.Errorf("%d in flight", d.Flight())
	}
	d.Crash(bytes.Repeat([]byte{1}, 79996))
	holds(t, d, 7, full((20000-9)%256))
}
