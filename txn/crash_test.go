package txn_test

import (
	"math/rand/v2"
	"testing"

	"cistern/api"
	"cistern/disk"
	"cistern/tree"
	"cistern/txn"
)

// picked: picks for so many sector writes: of some all last, of some none, of some they are torn; and they may be too short, or too long.
func picked(r *rand.Rand, n int) []byte {
	picks := make([]byte, n)
	most := []int{2, 3, 70, 256}[r.IntN(4)]
	for i := range picks {
		picks[i] = byte(r.IntN(most))
	}
	switch r.IntN(8) {
	case 0:
		return picks[:n/2]
	case 1:
		return append(picks, 1, 1)
	case 2:
		return all(n)
	case 3:
		return nil
	}
	return picks
}

// world: a pool on a disk whose power goes, and what is known of it.
type world struct {
	t    *testing.T
	r    *rand.Rand
	d    *disk.Disk
	p    *txn.Txn
	last state           // behind the last Commit that told OK, or Open
	keys map[uint64]bool // of the tree that is the directory
}

// begun: a world that begins with an empty pool.
func begun(t *testing.T, blocks int, seed uint64) *world {
	t.Helper()
	w := &world{t: t, r: numbers(seed), d: formatted(t, blocks)}
	w.open()
	return w
}

// open: the disk's pool is opened.
func (w *world) open() {
	w.t.Helper()
	w.p = opened(w.t, w.d, []int{1, 2, 3, 8, api.MaxBlocks}[w.r.IntN(5)])
	w.last = stateOf(w.t, w.p)
	w.p = opened(w.t, w.d, []int{1, 2, 3, 8, api.MaxBlocks}[w.r.IntN(5)])
}

// undo: that behind Abort all is as behind the last commit. Without power the blocks cannot be looked at.
func (w *world) undo() {
	w.t.Helper()
	ok(w.t, "Abort", w.p.Abort())
	if w.p.Cache().Held() > 0 || w.p.Super() != w.last.super || w.p.Over() {
		w.t.Fatalf("behind Abort: %d held, %v", w.p.Cache().Held(), w.p.Super())
	}
	if w.d.Off() {
		return
	}
	if now := stateOf(w.t, w.p); !now.same(w.last) {
		w.t.Fatal("behind Abort all is not as behind the last commit")
	}
	ok(w.t, "Abort", w.p.Abort())
}

// insert: a pair is put into the directory; its value is a block of bytes.
func (w *world) insert() api.Errno {
	w.t.Helper()
	at, e := w.p.Refs().Alloc()
	if e != api.OK {
		return e
	}
	if e := w.p.Cache().Put(at, noise(w.r)); e != api.OK {
		return e
	}
	root, old, had, e := tree.Insert(w.p.Shelf(), w.p.Super().Dir, w.r.Uint64N(30), uint64(at))
	if e != api.OK {
		return e
	}
	return w.became(root, old, had)
}

// remove: a key is taken out of the directory.
func (w *world) remove() api.Errno {
	w.t.Helper()
	root, old, had, e := tree.Remove(w.p.Shelf(), w.p.Super().Dir, w.r.Uint64N(30))
	if e != api.OK {
		return e
	}
	return w.became(root, old, had)
}

// became: the directory has another root, and an old value is pointed to once less.
func (w *world) became(root, old uint64, had bool) api.Errno {
	w.t.Helper()
	if had {
		_, e := w.p.Refs().Dec(int(old))
		ok(w.t, "Dec", e)
	}
	return w.p.SetDir(root)
}

// rewrite: other bytes in a block that was handed out since the last commit, and is no node's.
func (w *world) rewrite() api.Errno {
	w.t.Helper()
	for key := range uint64(30) {
		at, had, e := tree.Lookup(w.p.Shelf(), w.p.Super().Dir, key)
		if e != api.OK {
			return e
		}
		if had && w.p.Refs().Fresh(int(at)) {
			return w.p.Cache().Put(int(at), noise(w.r))
		}
	}
	return api.OK
}

// commit: what stands now becomes the last commit, if that is told; else the power goes, and it may be.
func (w *world) commit() {
	w.t.Helper()
	if w.d.Off() {
		w.crash(w.last)
		return
	}
	now, e := w.now()
	if e == api.OK {
		e = w.p.Commit()
	}
	switch e {
	case api.OK:
		if w.p.Super() != now.super {
			w.t.Fatal("behind Commit:", w.p.Super())
		}
		w.last = now
	case api.ErrOff:
		w.crash(now)
	default:
		w.t.Fatal("Commit:", e)
	}
}

// now: the state of the pool that a Commit would make the last one. To look at it writes what makes room: the power may go with that.
func (w *world) now() (state, api.Errno) {
	w.t.Helper()
	x := state{w.p.Super(), w.p.Refs().Counts(), make(map[int]string)}
	x.super.Gen++
	for at, count := range x.counts {
		if count > 0 && at >= backOf(len(x.counts)) {
			b, e := w.p.Cache().Get(at)
			if e != api.OK {
				return w.last, e
			}
			x.blocks[at] = string(b)
		}
	}
	return x, api.OK
}

// crash: the power goes; the pool is that of the last commit, or of the one under way.
func (w *world) crash(underWay state) {
	w.t.Helper()
	w.d.Crash(picked(w.r, w.d.Flight()))
	last := w.last
	w.open()
	if !w.last.same(last) && !w.last.same(underWay) {
		w.t.Fatalf("behind a crash: %v, not %v, nor %v", w.last.super, last.super, underWay.super)
	}
}

// step: one call of many.
func (w *world) step() {
	w.t.Helper()
	e := api.OK
	switch w.r.IntN(16) {
	case 0, 1, 2, 3, 4:
		e = w.insert()
	case 5, 6, 7:
		e = w.remove()
	case 8:
		e = w.rewrite()
	case 9:
		e = w.p.SetNext(w.r.Uint64N(greatestGen) + 1)
	case 10:
		e = w.p.Cache().Flush()
	case 11, 12:
		w.commit()
	case 13:
		w.undo()
	case 14:
		w.d.Fuse(w.r.IntN(25))
	case 15:
		if w.r.IntN(3) == 0 {
			w.crash(w.last)
		}
	}
	switch e {
	case api.OK:
	case api.ErrFull:
		w.undo()
	case api.ErrOff:
		w.crash(w.last)
	default:
		w.t.Fatal("a call:", e)
	}
}

// P15.6, P15.7, and P15.2 to P15.5 with them: rows of calls with commits, aborts and crashes, over disks and rooms of all kinds.
func TestRows(t *testing.T) {
	for seed := range uint64(240) {
		blocks := []int{16, 17, 20, 40, 60, 241, 250, 1024}[seed%8]
		w := begun(t, blocks, seed)
		for range 250 {
			w.step()
		}
	}
}

// tear: picks by which one of so many sector writes is done by pick, and all others as the bits of mask tell.
func tear(n, one int, pick byte, mask uint) []byte {
	picks := make([]byte, n)
	for i := range picks {
		picks[i] = byte(mask >> (i % 32) & 1)
	}
	picks[one] = pick
	return picks
}

// failed: a commit of something, whose power goes with the Write or Barrier n; and the states behind the one ahead of it and behind it. What is put, and set, hangs on seed.
func failed(t *testing.T, d *disk.Disk, n int, seed uint64) (old, now state) {
	t.Helper()
	old = stateOf(t, opened(t, d, 20))
	p, r := opened(t, d, 20), numbers(seed)
	at, e := p.Refs().Alloc()
	ok(t, "Alloc", e)
	ok(t, "Put", p.Cache().Put(at, noise(r)))
	ok(t, "SetDir", p.SetDir(uint64(at)))
	ok(t, "SetNext", p.SetNext(r.Uint64N(greatestGen)+1))
	now = stateOf(t, p)
	now.super.Gen++
	d.Fuse(n)
	if e := p.Commit(); e != api.ErrOff {
		t.Fatal("Commit:", e)
	}
	return old, now
}

// P15.6: each of a commit's steps, each sector in flight torn at each of its bytes, and all others done, lost, or some of each.
func TestEachTearing(t *testing.T) {
	for _, gen := range []uint64{1, 2, 255, 256, 1<<32 - 1} {
		from := garbage(t, 16, gen)
		byHand(t, from, api.Super{Gen: max(gen-1, 1), Blocks: 16, Next: 3}, empty(16))
		byHand(t, from, api.Super{Gen: gen, Blocks: 16, Next: 4}, empty(16))
		for n := 1; n <= 5; n++ {
			d := from.Copy()
			old, now := failed(t, d, n, gen)
			if d.Flight() == 0 {
				d.Crash(nil)
				if is := stateOf(t, opened(t, d, 20)); !is.same(old) {
					t.Fatalf("Gen %d, fuse %d: %v", gen, n, is.super)
				}
			}
			for one := range d.Flight() {
				for pick := range 67 {
					for _, mask := range []uint{0, 1<<32 - 1, 0x5555, 0x3cc3} {
						x := d.Copy()
						x.Crash(tear(d.Flight(), one, byte(pick), mask))
						is := stateOf(t, opened(t, x, 20))
						if !is.same(old) && (n < 5 || !is.same(now)) {
							t.Fatalf("Gen %d, fuse %d, sector %d torn by %d: %v", gen, n, one, pick, is.super)
						}
					}
				}
			}
		}
	}
}

// P15.6: a superblock is torn, the pool is opened, and in the next commit's it is torn again, wherever both are: over the leavings of the first.
func TestTornTwice(t *testing.T) {
	for _, gen := range []uint64{1, 254, 255, 256} {
		from := anew(t, 16)
		byHand(t, from, api.Super{Gen: gen, Blocks: 16, Next: 4}, empty(16))
		if gen > 1 {
			byHand(t, from, api.Super{Gen: gen - 1, Blocks: 16, Next: 3}, empty(16))
		}
		for one := range 65 {
			d := from.Copy()
			failed(t, d, 5, 1)
			d.Crash([]byte{byte(2 + one), 1, 1, 1})
			again := d.Copy()
			old, now := failed(t, again, 5, 2)
			for two := range 65 {
				x := again.Copy()
				x.Crash([]byte{byte(2 + two), 1, 1, 1})
				is := stateOf(t, opened(t, x, 20))
				if !is.same(old) && !is.same(now) {
					t.Fatalf("Gen %d, torn at %d and at %d: %v", gen, one, two, is.super)
				}
				if two == 64 && !is.same(now) {
					t.Fatalf("Gen %d, torn at %d, then whole: %v", gen, one, is.super)
				}
			}
		}
	}
}

// P15.7: Abort lets go what was put, counted, handed out and set since the last commit, even what the cache had to write.
func TestAbort(t *testing.T) {
	for seed := range uint64(60) {
		blocks := sizes[seed%uint64(len(sizes))]
		d := ready(t, blocks, seed)
		room := []int{1, 2, 7, api.MaxBlocks}[seed%4]
		p, r := opened(t, d, room), numbers(seed)
		want := stateOf(t, opened(t, d, api.MaxBlocks))
		for range r.IntN(40) {
			change(t, r, p)
		}
		flight, ahead := d.Flight(), content(t, d)
		d.Fuse(1)
		ok(t, "Abort", p.Abort())
		d.Fuse(0)
		if d.Flight() != flight || len(differ(ahead, content(t, d))) > 0 || p.Cache().Held() > 0 || p.Over() {
			t.Fatalf("seed %d: Abort writes, or something is held", seed)
		}
		for at := range blocks {
			if p.Refs().Fresh(at) {
				t.Fatalf("seed %d: %d is fresh", seed, at)
			}
		}
		if is := stateOf(t, p); !is.same(want) {
			t.Fatalf("seed %d: %v, not %v", seed, is.super, want.super)
		}
		if want.super.Gen == greatestGen {
			continue
		}
		ok(t, "Commit", p.Commit())
		want.super.Gen++
		if is := stateOf(t, opened(t, d, 9)); !is.same(want) {
			t.Fatalf("seed %d: behind a commit %v, not %v", seed, is.super, want.super)
		}
	}
}
