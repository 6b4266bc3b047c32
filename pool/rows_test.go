package pool_test

import (
	"fmt"
	"math/rand/v2"
	"testing"

	"cistern/api"
)

// world: a pool on a disk whose power goes, and what it must tell.
type world struct {
	*stand
	r    *rand.Rand
	has  family
	last family         // as has was behind the last commit
	done map[string]int // how often which call told what
}

// begun: a world that begins with an empty pool.
func begun(t *testing.T, blocks int, seed uint64) *world {
	t.Helper()
	return &world{anew(t, blocks, 3), numbers(seed), newFamily(), newFamily(), map[string]int{}}
}

// name: one of a few, some of which may not be.
func (w *world) name() string {
	if w.r.IntN(40) == 0 {
		return mayNot[w.r.IntN(len(mayNot))]
	}
	return fmt.Sprint("n", w.r.IntN(20))
}

// size: mostly a small one, at and beside the ends of blocks; some may not be.
func (w *world) size() uint64 {
	switch w.r.IntN(12) {
	case 0:
		return sizes[w.r.IntN(len(sizes))].size
	case 1, 2, 3:
		return w.r.Uint64N(40)*256 + w.r.Uint64N(3)
	}
	return w.r.Uint64N(8000)
}

// volume: the number of one that is there, if there is one, and of its blocks one, or the end.
func (w *world) volume() (uint64, uint64) {
	if l := w.has.list(); len(l) > 0 && w.r.IntN(20) > 0 {
		v := l[w.r.IntN(len(l))]
		return v.Id, w.r.Uint64N(min(needs(v.Size), 40) + 1)
	}
	return w.r.Uint64N(30), w.r.Uint64N(30)
}

// any: a call that changes something.
func (w *world) any() deed {
	id, block := w.volume()
	_, end := w.volume()
	switch w.r.IntN(20) {
	case 0, 1:
		return created(w.name(), w.size())
	case 2, 3:
		return snapped(w.name(), w.name(), w.r.IntN(3) == 0)
	case 4:
		return deleted(w.name())
	case 5, 6:
		return resized(w.name(), w.size())
	case 7, 8, 9:
		return discarded(id, min(block, end), max(block, end))
	case 10:
		return discarded(id, block, end)
	}
	if w.r.IntN(30) == 0 {
		return written(id, block, text(1)[:w.r.IntN(256)])
	}
	return written(id, block, text(w.r.IntN(1000)))
}

// change: such a call, held against the words. Where there is no room, or no power, nothing changes.
func (w *world) change(do deed) api.Errno {
	w.t.Helper()
	was, ahead, free := w.has.copied(), w.powerless(), w.p.Free()
	want, g := do.words(&w.has)
	id, e := do.call(w.stand)
	w.done[fmt.Sprint("told ", e)]++
	if e == g && id == want {
		return e
	}
	if id != 0 || !(e == api.ErrFull && g == api.OK && free < 30 || e == api.ErrOff && w.d.Off()) {
		w.t.Fatalf("%s tells %d, %d, want %d, %d; %d blocks are free", do.what, id, e, want, g, free)
	}
	if by := differ(w.powerless(), ahead); by != "" {
		w.t.Fatalf("%s tells %d, and changes %s", do.what, e, by)
	}
	w.has = was
	return e
}

// whole: a few of them, as a whole, that is left, or goes on, at an error, or tells one at last.
func (w *world) whole() {
	w.t.Helper()
	was, ahead := w.has.copied(), w.powerless()
	n, left, at := 1+w.r.IntN(12), w.r.IntN(2) == 0, w.r.IntN(2) == 0
	e := w.p.Whole(func() api.Errno {
		for range n {
			if e := w.change(w.any()); e != api.OK && left {
				return e
			}
		}
		if at {
			return api.ErrMagic
		}
		return api.OK
	})
	w.done[fmt.Sprint("whole ", e == api.OK)]++
	if e == api.OK {
		return
	}
	w.has = was
	if by := differ(w.powerless(), ahead); by != "" {
		w.t.Fatalf("a Whole that fails changes %s", by)
	}
}

// step: one call, or some as a whole, a commit, an abort, or a crash.
func (w *world) step() {
	w.t.Helper()
	switch n := w.r.IntN(40); {
	case n < 28:
		w.change(w.any())
	case n < 33:
		w.whole()
	case n < 36:
		w.commit()
		w.last = w.has.copied()
	case n < 37:
		w.ok("Abort", w.p.Abort())
		w.has = w.last.copied()
	case n < 38:
		w.crash()
	default:
		w.fewer()
	}
}

// fewer: there is more room again, if there is little.
func (w *world) fewer() {
	w.t.Helper()
	if l := w.has.list(); len(l) > 0 && w.p.Free() < w.d.Blocks()/4 {
		w.change(deleted(l[w.r.IntN(len(l))].Name))
	}
}

// crash: the power goes at once, or in a row of calls and a Commit; behind it the pool is opened.
func (w *world) crash() {
	w.t.Helper()
	known := w.p.Txn().Super().Gen
	if w.r.IntN(4) > 0 {
		w.fused()
	}
	if w.p.Txn().Super().Gen > known {
		w.last = w.has.copied()
		known++
	}
	w.d.Crash(w.picks())
	w.open([]int{1, 2, 5, 100}[w.r.IntN(4)])
	if w.p.Txn().Super().Gen > known { // the commit that was under way lasts
		w.last = w.has.copied()
		w.done["under way, and there"]++
	}
	w.has = w.last.copied()
	w.done["crashed"]++
}

// fused: a few calls and a Commit, in which the power may go: anywhere, or near the Commit's end.
func (w *world) fused() {
	w.t.Helper()
	late := w.r.IntN(2) == 0
	if !late {
		w.d.Fuse(1 + w.r.IntN(30))
	}
	for range w.r.IntN(5) {
		if w.r.IntN(3) == 0 {
			w.whole()
		} else {
			w.change(w.any())
		}
		if w.d.Off() {
			return
		}
	}
	if late {
		w.d.Fuse(len(w.p.Txn().Cache().Dirty()) + 1 + w.r.IntN(8))
	}
	w.done[fmt.Sprint("Commit with a fuse ", w.p.Commit())]++
}

// picks: what becomes of the sectors in flight.
func (w *world) picks() []byte {
	picks := make([]byte, w.d.Flight())
	most := []int{1, 2, 3, 256}[w.r.IntN(4)]
	for i := range picks {
		picks[i] = byte(w.r.IntN(most))
	}
	return picks
}

// P17.6 to P17.8: rows of calls with commits, aborts and crashes, over disks that are small, and great.
func TestRows(t *testing.T) {
	for seed, blocks := range []int{16, 20, 30, 45, 60, 60, 100, 100, 240, 300, 500, 1024} {
		t.Run(fmt.Sprint(blocks, " ", seed), func(t *testing.T) {
			t.Parallel()
			w := begun(t, blocks, uint64(100+seed))
			for range 500 {
				w.step()
				w.tells("a row", w.has)
				w.counted("a row")
			}
			w.all()
			for _, what := range []string{"told 0", "told 1", "told 6", "told 7", "told 8", "told 30", "told 31", "whole true", "whole false", "crashed"} {
				if w.done[what] == 0 && !(blocks < 30 && what == "told 30" || blocks > 60 && what == "told 8") {
					t.Errorf("no %s: what was done: %v", what, w.done)
				}
			}
		})
	}
}

// all: all volumes are deleted: the pool is as free as it was made. (Where no block is free, not even behind a Commit, none can be.)
func (w *world) all() {
	w.t.Helper()
	w.commit()
	for _, v := range w.has.list() {
		if w.change(deleted(v.Name)) == api.ErrFull {
			w.told("Delete with free blocks", api.Errno(w.p.Free()/3), 0)
			return
		}
		w.commit()
	}
	if free := w.d.Blocks() - 2 - 2*((w.d.Blocks()+239)/240); w.p.Free() != free {
		w.t.Errorf("%d blocks are free, want %d", w.p.Free(), free)
	}
}
