package txn_test

import (
	"bytes"
	"math"
	"testing"

	"cistern/api"
	"cistern/disk"
	"cistern/txn"
)

// P15.3, P15.4, P15.5: a Txn that Open did not make is ErrNil ahead of all, and tells zero values.
func TestNone(t *testing.T) {
	for _, p := range []*txn.Txn{nil, {}} {
		if !p.Over() || p.Super() != (api.Super{}) || p.Refs() != nil || p.Cache() != nil || p.Shelf() != nil || p.Free() != 0 {
			t.Error("none tells something")
		}
		for _, n := range []uint64{0, 1, 16, greatestGen, greatestGen + 1, math.MaxUint64} {
			if e := p.SetDir(n); e != api.ErrNil {
				t.Error("SetDir:", e)
			}
			if e := p.SetNext(n); e != api.ErrNil {
				t.Error("SetNext:", e)
			}
		}
		if e := p.Commit(); e != api.ErrNil {
			t.Error("Commit:", e)
		}
		if e := p.Abort(); e != api.ErrNil {
			t.Error("Abort:", e)
		}
	}
}

// P15.3: SetDir takes any block that there is, SetNext any number that may be; Super tells them, and nothing else changes: not the disk, either.
func TestSet(t *testing.T) {
	for _, blocks := range sizes {
		d := formatted(t, blocks)
		p := opened(t, d, 3)
		ok(t, "Commit", p.Commit())
		ahead, want := content(t, d), api.Super{Gen: 2, Blocks: blocks, Next: 1}
		d.Fuse(1)
		for _, n := range []uint64{5, 0, 1, uint64(blocks) - 1, uint64(blocks), uint64(blocks) + 1, 1023, 1024, 1 << 31, 1 << 32, 1<<32 + 3, greatestGen, greatestGen + 1, 1 << 63, math.MaxUint64} {
			e := p.SetDir(n)
			switch {
			case n < uint64(blocks) && e == api.OK:
				want.Dir = n
			case n < uint64(blocks) || e != api.ErrArg:
				t.Errorf("%d blocks: SetDir(%d): %d", blocks, n, e)
			}
			if p.Super() != want {
				t.Errorf("%d blocks: behind SetDir(%d): %v", blocks, n, p.Super())
			}
			e = p.SetNext(n)
			switch {
			case n >= 1 && n <= greatestGen && e == api.OK:
				want.Next = n
			case n >= 1 && n <= greatestGen || e != api.ErrArg:
				t.Errorf("%d blocks: SetNext(%d): %d", blocks, n, e)
			}
			if p.Super() != want {
				t.Errorf("%d blocks: behind SetNext(%d): %v", blocks, n, p.Super())
			}
		}
		d.Fuse(0)
		if d.Off() || d.Flight() > 0 || len(differ(ahead, content(t, d))) > 0 || !bytes.Equal(p.Refs().Counts(), empty(blocks)) || p.Over() {
			t.Errorf("%d blocks: something else has changed", blocks)
		}
	}
}

// P15.3: neither power nor what the disk has is asked for; Refs, Cache and Shelf are the very ones, behind Commit and Abort, too.
func TestTheVeryOnes(t *testing.T) {
	d := formatted(t, 16)
	p := opened(t, d, 3)
	r, c, s := p.Refs(), p.Cache(), p.Shelf()
	same := func(what string) {
		t.Helper()
		if p.Refs() != r || p.Cache() != c || p.Shelf() != s {
			t.Error("others behind", what)
		}
	}
	same("Open")
	at, e := r.Alloc()
	if e != api.OK || at != 4 || p.Free() != 11 || p.Refs().Count(4) != 1 {
		t.Error("the Refs are others:", at, e, p.Free())
	}
	ok(t, "Put", c.Put(4, noise(numbers(1))))
	if p.Cache().Held() != 1 {
		t.Error("the cache is another one")
	}
	ok(t, "Commit", p.Commit())
	same("Commit")
	ok(t, "Abort", p.Abort())
	same("Abort")
	d.Fuse(1)
	d.Barrier()
	if p.Over() || p.Super() != (api.Super{Gen: 2, Blocks: 16, Next: 1}) || p.Free() != 11 {
		t.Error("without power:", p.Super(), p.Free())
	}
	ok(t, "SetDir without power", p.SetDir(4))
	ok(t, "SetNext without power", p.SetNext(4))
	same("the power's end")
	ok(t, "Abort without power", p.Abort())
	if p.Over() || p.Super() != (api.Super{Gen: 2, Blocks: 16, Next: 1}) {
		t.Error("Abort without power:", p.Super())
	}
	if e := p.Commit(); e != api.ErrOff || !p.Over() {
		t.Error("Commit without power:", e)
	}
	same("the pool's end")
}

// ended: a pool of whose Commits one told an error.
func ended(t *testing.T, d *disk.Disk, n int) *txn.Txn {
	t.Helper()
	p := opened(t, d, 3)
	ok(t, "SetNext", p.SetNext(5))
	at, e := p.Refs().Alloc()
	ok(t, "Alloc", e)
	ok(t, "Put", p.Cache().Put(at, noise(numbers(1))))
	ok(t, "SetDir", p.SetDir(uint64(at)))
	d.Fuse(n)
	if e := p.Commit(); e != api.ErrOff {
		t.Fatal("Commit:", e)
	}
	return p
}

// P15.4: a Commit told an error: the pool is over, wherever it failed; each call that tells an error tells ErrBusy, ahead of ErrArg, with the power on again, too; nothing changes; the others still tell.
func TestOver(t *testing.T) {
	for n := 1; n <= 5; n++ {
		d := formatted(t, 16)
		p := ended(t, d, n)
		for range 2 {
			if !p.Over() {
				t.Fatal("not over")
			}
			for _, x := range []uint64{0, 1, 4, 16, 1 << 62, math.MaxUint64} {
				if e := p.SetDir(x); e != api.ErrBusy {
					t.Error("SetDir:", e)
				}
				if e := p.SetNext(x); e != api.ErrBusy {
					t.Error("SetNext:", e)
				}
			}
			if e := p.Commit(); e != api.ErrBusy {
				t.Error("Commit:", e)
			}
			if e := p.Abort(); e != api.ErrBusy {
				t.Error("Abort:", e)
			}
			if p.Super() != (api.Super{Gen: 1, Blocks: 16, Dir: 4, Next: 5}) || p.Free() != 11 || p.Shelf() == nil {
				t.Error("what it tells:", p.Super(), p.Free())
			}
			if p.Refs().Count(4) != 1 || !p.Refs().Fresh(4) || p.Cache().Held() == 0 {
				t.Error("its Refs, or its cache, have changed")
			}
			d.Crash(all(d.Flight()))
		}
		if d.Flight() > 0 {
			t.Error("a pool that is over writes")
		}
		q := opened(t, d, 3)
		old, now := api.Super{Gen: 1, Blocks: 16, Next: 1}, api.Super{Gen: 2, Blocks: 16, Dir: 4, Next: 5}
		if n < 5 && q.Super() != old || n == 5 && q.Super() != now {
			t.Errorf("the power went at %d: %v", n, q.Super())
		}
	}
}

// P15.4: at the end of the generations Commit is ErrFull, ahead of what the disk tells; the pool is not over, and goes on but for that.
func TestCommitAtTheEndOfGenerations(t *testing.T) {
	d := anew(t, 16)
	byHand(t, d, api.Super{Gen: greatestGen - 1, Blocks: 16, Next: 1}, empty(16))
	p := opened(t, d, 3)
	ok(t, "the last Commit", p.Commit())
	at, e := p.Refs().Alloc()
	ok(t, "Alloc", e)
	ok(t, "Put", p.Cache().Put(at, noise(numbers(1))))
	ok(t, "SetDir", p.SetDir(4))
	ok(t, "SetNext", p.SetNext(greatestGen))
	want := api.Super{Gen: greatestGen, Blocks: 16, Dir: 4, Next: greatestGen}
	ahead := content(t, d)
	for i := range 3 {
		if i == 2 {
			d.Fuse(1)
			d.Barrier()
		}
		if e := p.Commit(); e != api.ErrFull || p.Over() || p.Super() != want || d.Flight() > 0 {
			t.Fatal("Commit:", e, p.Over(), p.Super())
		}
		if p.Free() != 11 || !p.Refs().Fresh(4) || len(p.Cache().Dirty()) != 1 {
			t.Fatal("something has changed")
		}
	}
	d.Crash(nil)
	if len(differ(ahead, content(t, d))) > 0 {
		t.Error("the disk has changed")
	}
	ok(t, "SetNext", p.SetNext(2))
	ok(t, "Abort", p.Abort())
	if p.Super() != (api.Super{Gen: greatestGen, Blocks: 16, Next: 1}) || p.Free() != 12 {
		t.Error("behind Abort:", p.Super(), p.Free())
	}
	if e := p.Commit(); e != api.ErrFull {
		t.Error("Commit behind Abort:", e)
	}
	if q := opened(t, d, 1); q.Super() != (api.Super{Gen: greatestGen, Blocks: 16, Next: 1}) {
		t.Error("opened again:", q.Super())
	}
}

// The chapter's example 1: Format of 16 blocks, Open: Gen 1, Free 12. Alloc: 4. Commit: Gen 2; slot 0, area 0 (block 2).
func TestExampleOne(t *testing.T) {
	d := formatted(t, 16)
	p := opened(t, d, 4)
	if p.Super().Gen != 1 || p.Free() != 12 {
		t.Error(p.Super(), p.Free())
	}
	if at, e := p.Refs().Alloc(); at != 4 || e != api.OK {
		t.Error(at, e)
	}
	ahead := content(t, d)
	ok(t, "Commit", p.Commit())
	if p.Super().Gen != 2 {
		t.Error(p.Super())
	}
	now := content(t, d)
	if l := differ(ahead, now); len(l) != 2 || l[0] != 0 || l[1] != 2 {
		t.Error("written:", l)
	}
	if !bytes.Equal(now[0], formOf(api.Super{Gen: 2, Blocks: 16, Next: 1})) {
		t.Error("slot 0:", now[0])
	}
	if !bytes.Equal(now[2], page(t, append(bytes.Repeat([]byte{1}, 5), make([]byte, 11)...), 2)) {
		t.Error("block 2:", now[2])
	}
}

// The chapter's example 2: Alloc, Abort, Free: 12. Alloc, Crash, Open, Free: 12.
func TestExampleTwo(t *testing.T) {
	d := formatted(t, 16)
	p := opened(t, d, 4)
	p.Refs().Alloc()
	ok(t, "Abort", p.Abort())
	if p.Free() != 12 {
		t.Error("behind Abort:", p.Free())
	}
	p.Refs().Alloc()
	d.Crash(nil)
	if p = opened(t, d, 4); p.Free() != 12 {
		t.Error("behind the crash:", p.Free())
	}
}
