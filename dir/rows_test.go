package dir_test

import (
	"fmt"
	"maps"
	"math/rand/v2"
	"slices"
	"testing"

	"cistern/api"
	"cistern/dir"
	"cistern/share"
)

// hold: a directory that somebody else holds, and the volumes that it has.
type hold struct {
	root uint64
	has  family
}

// world: a pool on a disk whose power goes, and what its directory must tell.
type world struct {
	*stand
	r    *rand.Rand
	has  family
	held []hold
	last struct { // as has and held were behind the last commit
		has  family
		held []hold
	}
	done map[string]int // how often which call told what
}

// begun: a world that begins with an empty pool.
func begun(t *testing.T, blocks int, seed uint64) *world {
	t.Helper()
	w := &world{stand: anew(t, blocks, 3), r: numbers(seed), has: family{}, done: map[string]int{}}
	w.kept()
	return w
}

// kept: what stands now is committed.
func (w *world) kept() {
	w.last.has, w.last.held = maps.Clone(w.has), slices.Clone(w.held)
}

// back: what stands now is what was committed.
func (w *world) back() {
	w.has, w.held = maps.Clone(w.last.has), slices.Clone(w.last.held)
}

// any: a volume, some of which may not be; of few numbers and names, so that they meet.
func (w *world) any() api.Volume {
	v := volume(1+w.r.Uint64N(24), fmt.Sprint("n", w.r.IntN(24)))
	v.Size, v.Root = w.r.Uint64N(1<<32+1), w.r.Uint64()
	switch w.r.IntN(40) {
	case 0:
		v.Id = []uint64{0, 1 << 62, greatest}[w.r.IntN(3)]
	case 1:
		v.Name = names[w.r.IntN(len(names))]
	case 2:
		v.Size = 1<<32 + 1
	case 3:
		v.Id = greatestId
	}
	return v
}

// step: one call, held against the words.
func (w *world) step() {
	w.t.Helper()
	v := w.any()
	switch w.r.IntN(20) {
	case 0, 1, 2, 3, 4, 5:
		w.change("Add", func(f family) api.Errno { return f.add(v) }, func() api.Errno { return dir.Add(w.p, v) })
	case 6, 7, 8, 9, 10:
		if old, there := w.has[v.Id]; there && w.r.IntN(2) == 0 {
			v.Name = old.Name
		}
		w.change("Set", func(f family) api.Errno { return f.set(v) }, func() api.Errno { return dir.Set(w.p, v) })
	case 11, 12, 13:
		w.change("Remove", func(f family) api.Errno { return f.remove(v.Id) }, func() api.Errno { return dir.Remove(w.p, v.Id) })
	case 14, 15:
		w.ok("Commit", w.p.Commit())
		w.kept()
	case 16:
		w.abort()
	case 17:
		w.hold()
	case 18:
		w.letGo()
	case 19:
		w.crash()
	}
}

// change: a call that changes the directory, if it may. Where there is no room, or no power, it is undone.
func (w *world) change(what string, words func(f family) api.Errno, call func() api.Errno) {
	w.t.Helper()
	free := w.p.Free()
	ahead := maps.Clone(w.has)
	want := words(w.has)
	e := call()
	w.done[fmt.Sprint(what, " ", e)]++
	switch {
	case e == want:
		return
	case e == api.ErrFull && want == api.OK && free <= 6:
		w.done["no room"]++
		w.abort()
	case e == api.ErrOff && w.d.Off():
		w.back()
	default:
		w.t.Fatalf("%s tells %d, want %d; %d blocks are free, and there are %v", what, e, want, free, ahead)
	}
}

func (w *world) abort() {
	w.t.Helper()
	w.ok("Abort", w.p.Abort())
	w.back()
}

// hold: the directory is held once more.
func (w *world) hold() {
	w.t.Helper()
	if root := w.p.Super().Dir; root != 0 && len(w.held) < 3 && w.p.Free() > 40 {
		w.held = append(w.held, hold{w.clone(), maps.Clone(w.has)})
	}
}

// letGo: what is held tells what it had, and is held no more.
func (w *world) letGo() {
	w.t.Helper()
	if len(w.held) == 0 {
		return
	}
	i := w.r.IntN(len(w.held))
	now := w.p.Super().Dir
	w.ok("SetDir", w.p.SetDir(w.held[i].root))
	w.tells("a directory that is held", w.held[i].has)
	w.ok("SetDir", w.p.SetDir(now))
	w.ok("Drop", share.Drop(w.p.Shelf(), w.p.Refs(), w.held[i].root))
	w.held = slices.Delete(slices.Clone(w.held), i, i+1)
	w.done["let go"]++
}

// crash: the power goes at once, or in a row of calls and a Commit; behind it the pool is opened.
func (w *world) crash() {
	w.t.Helper()
	if w.r.IntN(3) > 0 {
		w.fused()
	}
	known := w.p.Super().Gen
	w.d.Crash(w.picks())
	w.open([]int{1, 2, 5, 100}[w.r.IntN(4)])
	if w.p.Super().Gen > known { // the commit that was under way lasts
		w.kept()
		w.done["under way, and there"]++
	}
	w.back()
	w.done["crashed"]++
}

// fused: a few calls and a Commit, in which the power may go: anywhere, or near the Commit's end.
func (w *world) fused() {
	w.t.Helper()
	late := w.r.IntN(2) == 0
	if !late {
		w.d.Fuse(1 + w.r.IntN(20))
	}
	for range w.r.IntN(4) {
		v := w.any()
		w.change("Add", func(f family) api.Errno { return f.add(v) }, func() api.Errno { return dir.Add(w.p, v) })
		if w.d.Off() {
			return
		}
	}
	if late {
		w.d.Fuse(len(w.p.Cache().Dirty()) + 1 + w.r.IntN(8))
	}
	e := w.p.Commit()
	w.done[fmt.Sprint("Commit with a fuse ", e)]++
	if e == api.OK {
		w.kept()
	}
}

// picks: what becomes of the sectors in flight.
func (w *world) picks() []byte {
	picks := make([]byte, w.d.Flight())
	most := []int{1, 2, 3, 256}[w.r.IntN(4)]
	for i := range picks {
		picks[i] = byte(w.r.IntN(most))
	}
	return picks
}

// look: that the directory tells what it must, and all is counted.
func (w *world) look() {
	w.t.Helper()
	w.tells("a row", w.has)
	var held []uint64
	for _, h := range w.held {
		held = append(held, h.root)
	}
	w.counted("a row", held...)
}

// P16.4, P16.5: rows of calls with commits, aborts and crashes, over disks that are small, and great.
func TestRows(t *testing.T) {
	for seed, blocks := range []int{16, 20, 24, 30, 60, 60, 100, 100, 240, 300} {
		t.Run(fmt.Sprint(blocks, " ", seed), func(t *testing.T) {
			t.Parallel()
			w := begun(t, blocks, uint64(100+seed))
			for range 500 {
				w.step()
				w.look()
			}
			if w.done["crashed"] == 0 || w.done["Add 0"] == 0 || w.done["Set 0"] == 0 || w.done["Remove 0"] == 0 || w.done["Set 7"] == 0 {
				t.Errorf("what was done: %v", w.done)
			}
			if blocks >= 100 && (w.done["let go"] == 0 || w.done["Commit with a fuse 9"] == 0) || blocks < 30 && w.done["no room"] == 0 {
				t.Errorf("what was done: %v", w.done)
			}
		})
	}
}

// P16.4: behind Abort it is what was at the last Commit.
func TestAborted(t *testing.T) {
	for _, n := range []int{0, 1, 8, 9, 15, 16} {
		all := some(n)
		for _, do := range deeds(all) {
			x := anew(t, 80, 4)
			x.add(all...)
			x.commit()
			free := x.p.Free()
			for range 2 {
				x.ok(do.what, do.call(x))
				x.ok("Abort", x.p.Abort())
				x.tells("behind Abort", familyOf(all))
				x.counted("behind Abort")
				if x.p.Free() != free {
					t.Errorf("behind Abort of %s %d blocks are free, want %d", do.what, x.p.Free(), free)
				}
			}
			x.open(4)
			x.tells("behind Open", familyOf(all))
		}
	}
}

// P16.4: behind a crash, at each write of a Commit, it is what was at the last one, or at the one that was under way.
func TestCommitUnderWay(t *testing.T) {
	for _, do := range deeds(some(9)) {
		seen := map[string]int{}
		for fuse := 1; ; fuse++ {
			for _, pick := range []byte{0, 1, 40} {
				x := anew(t, 80, 80)
				x.add(some(9)...)
				x.commit()
				x.ok(do.what, do.call(x))
				gen := x.p.Super().Gen
				x.d.Fuse(fuse)
				e := x.p.Commit()
				seen[fmt.Sprint("told ", e)]++
				x.d.Crash(slices.Repeat([]byte{pick}, x.d.Flight()))
				x.open(4)
				f := familyOf(some(9))
				if x.p.Super().Gen > gen {
					do.does(f)
					seen["the one under way"]++
				} else if e == api.OK {
					t.Fatalf("%s is lost behind a Commit", do.what)
				}
				x.tells("behind a crash", f)
				x.counted("behind a crash")
			}
			if seen["told 0"] > 0 {
				break
			}
		}
		if seen["the one under way"] <= seen["told 0"] {
			t.Errorf("behind a crash was seen: %v", seen)
		}
	}
}
