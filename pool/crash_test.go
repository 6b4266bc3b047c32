package pool_test

import (
	"fmt"
	"slices"
	"testing"

	"cistern/api"
)

// changes: a few calls of each kind, for the base of a few.
func changes() []deed {
	return []deed{created("new", 300), snapped("c", "new", true), deleted("c"), deleted("b"), resized("c", 3000), resized("a", 1), written(1, 3, text(9)), written(4, 0, text(9)),
		written(5, 1<<21, text(9)), discarded(3, 0, 1<<24), discarded(5, 3, 15)}
}

// P17.8: the power goes at each write and barrier of a Commit, and what is in flight is lost, done or torn: behind it the pool is as behind the last commit, or the one under way.
func TestCommitUnderWay(t *testing.T) {
	for _, do := range changes() {
		t.Run(do.what, func(t *testing.T) {
			t.Parallel()
			g := bases()[2].ground(t, manners[1])
			seen := map[string]int{}
			for fuse := 1; seen["told 0"] == 0; fuse++ {
				for _, picks := range [][]byte{{0}, {1}, {2 + 40}, {1, 0}, {0, 1}, {1, 1, 1, 2 + 63, 0}, {1, 2 + 11, 1}} {
					x, f := g.twin(240)
					_, e := do.call(x)
					x.ok(do.what, e)
					x.d.Fuse(fuse)
					e = x.p.Commit()
					seen[fmt.Sprint("told ", e)]++
					x.d.Crash(slices.Repeat(picks, x.d.Flight()))
					gen := g.p.Txn().Super().Gen
					x.open(7)
					if x.p.Txn().Super().Gen > gen {
						do.words(&f)
						seen["the one under way"]++
					} else if e == api.OK {
						t.Fatalf("it is lost behind a Commit")
					}
					x.tells("behind a crash", f)
					x.counted("behind a crash")
				}
			}
			if seen["the one under way"] <= seen["told 0"] {
				t.Errorf("behind a crash was seen: %v", seen)
			}
		})
	}
}

// P17.8: the power goes at each write of each call, over caches in which there is hardly room: ErrOff, and nothing has changed that is seen without power; behind it the pool is as behind its last commit, by an Abort and by an Open.
func TestPowerGoes(t *testing.T) {
	for _, room := range []int{1, 2, 6} {
		for _, m := range manners[1:3] {
			t.Run(fmt.Sprint(room, " ", m.what), func(t *testing.T) {
				t.Parallel()
				g := bases()[2].ground(t, manners[1])
				for _, do := range append(changes(), whole(changes()[:1]), whole(changes()[3:6]), whole(much()[:9])) {
					for fuse := 1; ; fuse++ {
						x, f := g.twin(room)
						if m.what != "committed" {
							x.again()
						}
						ahead := x.powerless()
						x.d.Fuse(fuse)
						id, e := do.call(x)
						if e == api.OK && !x.d.Off() {
							break
						}
						if e != api.ErrOff || id != 0 || fuse > 300 {
							t.Fatalf("with a fuse of %d %s tells %d, %d", fuse, do.what, id, e)
						}
						if by := differ(x.powerless(), ahead); by != "" {
							t.Fatalf("with a fuse of %d %s changes %s", fuse, do.what, by)
						}
						x.d.Crash(slices.Repeat([]byte{byte(fuse)}, x.d.Flight()))
						x.ok("Abort", x.p.Abort())
						x.tells("behind Abort", f)
						x.counted("behind Abort")
						x.open(room)
						x.tells("behind Open", f)
						x.counted("behind Open")
					}
				}
			})
		}
	}
}

// whole: some deeds, as a whole.
func whole(l []deed) deed {
	return deed{what: fmt.Sprint("Whole of ", len(l)), call: mute(func(x *stand) api.Errno {
		return x.p.Whole(func() api.Errno {
			for _, do := range l {
				if _, e := do.call(x); e != api.OK {
					return e
				}
			}
			return api.OK
		})
	})}
}

// P17.8: what is committed lasts, whatever is done behind it ahead of a crash, a Whole included.
func TestCommittedLasts(t *testing.T) {
	b := bases()[2]
	for _, room := range []int{1, 9, 240} {
		for _, fails := range []api.Errno{api.OK, api.ErrFull} {
			x, f := b.built(t, manners[1], room)
			x.told("Whole", x.p.Whole(func() api.Errno { x.does(much()); return fails }), fails)
			x.d.Crash(slices.Repeat([]byte{1, 0, 50}, x.d.Flight()))
			x.open(room)
			x.tells("behind a crash", f)
			x.counted("behind a crash")
		}
	}
}
