package pool_test

import (
	"fmt"
	"slices"
	"testing"

	"cistern/api"
)

// P17.4: of each size the blocks ahead of, at and behind the last one.
func TestLastBlock(t *testing.T) {
	for _, s := range sizes {
		if s.blocks == 0 {
			continue
		}
		x := anew(t, 60, 8)
		x.create("a", s.size)
		for _, block := range []uint64{0, 1, 2, s.blocks - 2, s.blocks - 1, s.blocks, s.blocks + 1, 1 << 24, 1<<24 + 1, 1 << 32, 1 << 56, 1 << 63, greatest} {
			want := api.OK
			if block >= s.blocks {
				want = api.ErrRange
			}
			what := fmt.Sprintf("of %d bytes the block %d", s.size, block)
			b, e := x.p.Read(1, block)
			x.told(what, e, want)
			if e == api.OK != (len(b) == 256) || len(slices.DeleteFunc(b, func(n byte) bool { return n == 0 })) > 0 {
				t.Errorf("%s: %v", what, b)
			}
			x.told(what, x.p.Write(1, block, text(int(block%77))), want)
			if want == api.OK {
				x.has(1, block, text(int(block%77)))
				x.ok(what, x.p.Discard(1, block, block+1))
				x.has(1, block, make([]byte, 256))
			}
		}
		x.counted("behind all")
	}
}

// P17.4: a discard's ends.
func TestDiscardEnds(t *testing.T) {
	for _, s := range sizes {
		if s.blocks == 0 {
			continue
		}
		x := anew(t, 60, 8)
		x.create("a", s.size)
		edges := []uint64{0, 1, 2, s.blocks / 2, s.blocks - 1, s.blocks, s.blocks + 1, 1 << 24, 1<<24 + 1, 1 << 63, greatest}
		for _, from := range edges {
			for _, to := range edges {
				want := api.OK
				if from > to || to > s.blocks {
					want = api.ErrRange
				}
				x.stays("Discard where nothing is mapped", func() {
					x.told(fmt.Sprintf("of %d bytes Discard from %d to %d", s.size, from, to), x.p.Discard(1, from, to), want)
				})
			}
		}
	}
}

// P17.4: Discard of nothing, of one block, of some, of all, and of such as are not mapped; twice nothing more. What it leaves, and what a snapshot has.
func TestDiscard(t *testing.T) {
	x, f := anew(t, 200, 7), newFamily()
	do := func(d deed) {
		t.Helper()
		want, g := d.words(&f)
		if id, e := d.call(x); id != want || e != g {
			t.Fatalf("%s tells %d, %d, want %d, %d", d.what, id, e, want, g)
		}
		x.tells(d.what, f)
		x.counted(d.what)
	}
	do(created("a", 64*256))
	for _, block := range []uint64{0, 1, 2, 3, 5, 8, 13, 21, 34, 35, 36, 37, 38, 39, 40, 55, 63} {
		do(written(1, block, text(int(block))))
	}
	do(snapped("a", "b", false))
	for _, c := range [][2]uint64{{7, 7}, {0, 0}, {64, 64}, {6, 8}, {41, 55}, {5, 6}, {5, 6}, {0, 1}, {63, 64}, {36, 39}, {1, 36}, {0, 64}, {0, 64}} {
		do(discarded(1, c[0], c[1]))
		x.stays("a Discard of what is not mapped", func() { do(discarded(1, c[0], c[1])) })
	}
	if v, e := x.p.Get("a"); e != api.OK || v.Root != 0 {
		t.Errorf("behind a Discard of all there is %v, %d", v, e)
	}
	do(discarded(2, 2, 64))
	do(written(1, 3, text(5)))
	do(written(2, 3, make([]byte, 256)))
	do(discarded(2, 0, 3))
}

// P17.4: Write maps blocks, noughts too, takes one for the bytes, and lets the old one go; what it gives is read at once, and behind a commit.
func TestWrite(t *testing.T) {
	x := anew(t, 60, 6)
	x.create("a", 1000)
	for i := range 50 {
		x.write(1, i, 2)
		x.has(1, 2, text(i+2))
		x.counted("behind Write")
		if i%7 == 0 {
			x.commit()
		}
	}
	x.ok("Write", x.p.Write(1, 2, make([]byte, 256)))
	x.ok("Write", x.p.Write(1, 0, make([]byte, 256)))
	v, e := x.p.Get("a")
	if keys := x.keys(v.Root); e != api.OK || len(keys) != 2 || keys[0] == 0 || keys[2] == 0 {
		t.Errorf("mapped are %v", keys)
	}
	x.commit()
	x.open(3)
	x.has(1, 2, make([]byte, 256))
}

// P17.4: the bytes of a block stand there as they are, without a stamp.
func TestBytesAsTheyAre(t *testing.T) {
	x := anew(t, 60, 60)
	x.create("a", 1000)
	x.write(1, 9, 2)
	v, e := x.p.Get("a")
	x.ok("Get", e)
	b, e := x.p.Txn().Cache().Get(int(x.keys(v.Root)[2]))
	if e != api.OK || !slices.Equal(b, text(11)) {
		t.Errorf("there stands %v, %d", b, e)
	}
}

// P17.4: of several errors the first that its call names; nothing changes.
func TestBlocksRefused(t *testing.T) {
	x := anew(t, 120, 4)
	x.create("a", 1000)
	x.write(1, 10, 0, 3)
	x.snapshot("a", "b", true)
	x.stays("calls that are refused", func() {
		for _, id := range []uint64{0, 1, 2, 3, 1 << 62, greatest} {
			for _, block := range []uint64{0, 3, 4, 1 << 24, greatest} {
				_, e := x.p.Read(id, block)
				switch {
				case id != 1 && id != 2:
					x.told("Read", e, api.ErrNone)
				case block > 3:
					x.told("Read", e, api.ErrRange)
				default:
					x.ok("Read", e)
				}
				x.writeRefused(id, block)
				x.discardRefused(id, block)
			}
		}
	})
}

// writeRefused: what Write tells, with bytes that are no block's.
func (x *stand) writeRefused(id, block uint64) {
	x.t.Helper()
	for _, n := range []int{0, 1, 255, 257, 512, 256} {
		want := api.ErrArg
		switch {
		case id != 1 && id != 2:
			want = api.ErrNone
		case id == 2:
			want = api.ErrRead
		case block > 3:
			want = api.ErrRange
		case n == 256:
			continue
		}
		x.told(fmt.Sprintf("Write(%d, %d, %d bytes)", id, block, n), x.p.Write(id, block, make([]byte, n)), want)
	}
	if id == 1 && block <= 3 {
		x.told("Write of none", x.p.Write(id, block, nil), api.ErrArg)
	}
}

// discardRefused: what Discard tells that ends there.
func (x *stand) discardRefused(id, to uint64) {
	x.t.Helper()
	for _, from := range []uint64{0, 3, 4, 5, greatest} {
		want := api.ErrRange
		switch {
		case id != 1 && id != 2:
			want = api.ErrNone
		case id == 2:
			want = api.ErrRead
		case from <= to && to <= 4:
			continue
		}
		x.told(fmt.Sprintf("Discard(%d, %d, %d)", id, from, to), x.p.Discard(id, from, to), want)
	}
}

// R3: what is handed in is not kept, and not changed; what is told is new memory.
func TestOwnMemory(t *testing.T) {
	x := anew(t, 60, 60)
	x.create("a", 1000)
	b := text(1)
	x.ok("Write", x.p.Write(1, 0, b))
	if !slices.Equal(b, text(1)) {
		t.Errorf("Write changes its bytes")
	}
	clear(b)
	x.has(1, 0, text(1))
	for _, block := range []uint64{0, 1} {
		was, e := x.p.Read(1, block)
		x.ok("Read", e)
		want := slices.Clone(was)
		for i := range was {
			was[i] = 77
		}
		x.has(1, block, want)
	}
}

// P17.4: Read changes nothing of the pool, with whatever room.
func TestReadChangesNothing(t *testing.T) {
	b := bases()[2]
	for _, room := range []int{1, 3, 240} {
		x, f := b.built(t, manners[2], room)
		x.stays("Read", func() { x.tells("few", f) })
	}
}

// P17.6: each volume has what was written to it, whatever is written to others in between.
func TestEachItsOwn(t *testing.T) {
	x := anew(t, 400, 20)
	for i := range 8 {
		x.create(fmt.Sprint("v", i), uint64(1+i*700))
	}
	for n := range 6 {
		for i := range uint64(8) {
			for block := range needs(1 + i*700) {
				x.write(i+1, int(i)*31+n, block)
			}
		}
		for i := range uint64(8) {
			for block := range needs(1 + i*700) {
				x.has(i+1, block, text(int(i)*31+n+int(block)))
			}
		}
	}
	x.counted("behind all")
}
