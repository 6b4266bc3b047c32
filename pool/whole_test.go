package pool_test

import (
	"fmt"
	"runtime"
	"slices"
	"sync"
	"testing"

	"cistern/api"
)

// much: calls that change all volumes of the base of a few: what is fresh is let go, and handed out again.
func much() []deed {
	l := []deed{written(1, 2, text(60)), discarded(3, 0, 10), written(3, 1<<21, text(61)), deleted("b"), snapped("c", "x", false)}
	l = append(l, writes(8, 300, rising(12)...)...)
	l = append(l, resized("a", 100), resized("c", 300), created("y", 5000))
	l = append(l, writes(9, 400, rising(15)...)...)
	l = append(l, deleted("c"), deleted("e"), resized("g", 600), written(7, 0, text(62)), written(7, 1, text(63)), deleted("y"), snapped("g", "z", true), created("w", 9000))
	return append(l, writes(11, 500, rising(30)...)...)
}

// does: the deeds are done, one behind the other; all tell OK.
func (x *stand) does(l []deed) {
	x.t.Helper()
	for _, do := range l {
		_, e := do.call(x)
		x.ok(do.what, e)
	}
}

// said: the words of the deeds.
func (f *family) said(l []deed) {
	for _, do := range l {
		do.words(f)
	}
}

// P17.5: none; of a pool that is none, and of one that is over, ahead of that.
func TestWholeOfNone(t *testing.T) {
	x := anew(t, 60, 8)
	x.create("a", 1000)
	x.stays("Whole of none", func() { x.told("Whole of none", x.p.Whole(nil), api.ErrArg) })
	x.over(true)
	x.told("Whole of none, of a pool that is over", x.p.Whole(nil), api.ErrBusy)
	x.told("Whole of a pool that is over", x.p.Whole(func() api.Errno { t.Error("it is done"); return api.OK }), api.ErrBusy)
}

// P17.5: what it tells is told. With OK all that was done stands, as without a Whole.
func TestWholeThatIsDone(t *testing.T) {
	b := bases()[2]
	for _, m := range manners {
		for _, room := range []int{1, 5, 240} {
			x, f := b.built(t, m, room)
			y, _ := b.built(t, m, room)
			y.does(much())
			calls := 0
			x.ok("Whole", x.p.Whole(func() api.Errno { calls++; x.does(much()); return api.OK }))
			f.said(much())
			if by := differ(x.state(), y.state()); by != "" || calls != 1 {
				t.Fatalf("%s: by a Whole is other %s; it was called %d times", m.what, by, calls)
			}
			x.tells("a Whole", f)
			x.counted("a Whole")
			x.commit()
			x.open(room)
			x.tells("behind a Commit", f)
		}
	}
}

// P17.5, P17.8: behind an error, whatever it is, and wherever it comes, all is as ahead; what is done next, and a Commit, go as if there had been nothing.
func TestWholeThatFails(t *testing.T) {
	b, l := bases()[2], much()
	for _, m := range manners {
		for _, room := range []int{1, 2, 7, 240} {
			t.Run(fmt.Sprint(m.what, " ", room), func(t *testing.T) {
				t.Parallel()
				x, f := b.built(t, m, room)
				y, _ := b.built(t, m, room)
				ahead := x.state()
				for n := range len(l) + 1 {
					x.told("Whole", x.p.Whole(func() api.Errno { x.does(l[:n]); return api.ErrFull }), api.ErrFull)
					if by := differ(x.state(), ahead); by != "" {
						t.Fatalf("a Whole of %d calls that fails changes %s", n, by)
					}
				}
				for _, want := range []api.Errno{api.ErrArg, api.ErrBusy, api.ErrNil, api.ErrOff, -1, 1 << 20} {
					x.told("Whole", x.p.Whole(func() api.Errno { x.does(l); return want }), want)
				}
				if by := differ(x.state(), ahead); by != "" {
					t.Fatalf("a Whole that fails changes %s", by)
				}
				x.tells("behind all", f)
				x.counted("behind all")
				x.does(l)
				y.does(l)
				if by := differ(x.state(), y.state()); by != "" {
					t.Fatalf("behind a Whole that failed is other %s", by)
				}
				f.said(l)
				x.commit()
				x.open(room)
				x.tells("behind a Commit", f)
			})
		}
	}
}

// P17.5: blocks that stood are let go, handed out again, and written over, and have what they had behind the error; so in the cache, and when it had them written already.
func TestWholePutsBytesBack(t *testing.T) {
	for _, room := range []int{1, 2, 5, 60} {
		x := anew(t, 60, room)
		x.create("a", 5*256)
		x.write(1, 10, 0, 1, 2, 3, 4)
		ahead := x.state()
		over := 0
		e := x.p.Whole(func() api.Errno {
			x.ok("Delete", x.p.Delete("a"))
			if x.p.Free() != 56 {
				t.Errorf("%d blocks are free", x.p.Free())
			}
			x.create("b", 30*256)
			x.write(2, 100, rising(30)...)
			for at, b := range x.state().Blocks {
				if was, stood := ahead.Blocks[at]; stood && was != b {
					over++
				}
			}
			return api.ErrNone
		})
		x.told("Whole", e, api.ErrNone)
		if over < 7 {
			t.Errorf("%d blocks were written over", over)
		}
		if by := differ(x.state(), ahead); by != "" {
			t.Errorf("with a room of %d a Whole that fails changes %s", room, by)
		}
		for block := range uint64(5) {
			x.has(1, block, text(10+int(block)))
		}
		x.commit()
		x.open(room)
		x.has(1, 4, text(14))
	}
}

// P17.5: calls in it that fail change nothing, and what it tells hangs on what is told by do alone.
func TestWholeWithErrorsWithin(t *testing.T) {
	b := bases()[2]
	refused := []deed{created("a", 5), created("A", 5), created("n", 0), snapped("q", "n", true), snapped("a", "d", true), deleted("q"), resized("b", 5), resized("a", 0),
		written(2, 0, text(1)), written(1, 4, text(1)), written(1, 0, nil), discarded(1, 3, 2), discarded(2, 0, 1)}
	for _, fails := range []bool{false, true} {
		x, f := b.built(t, manners[2], 5)
		x.fill(30)
		ahead, was := x.state(), f.copied()
		full := 0
		e := x.p.Whole(func() api.Errno {
			for _, do := range slices.Concat(refused, much(), refused, much()) {
				if _, e := do.call(x); e == api.OK {
					do.words(&f)
				} else if e == api.ErrFull {
					full++
				}
				x.tells(do.what, f)
				x.counted(do.what)
			}
			if fails {
				return api.ErrRange
			}
			return api.OK
		})
		if full == 0 {
			t.Errorf("there was room for all")
		}
		if !fails {
			x.ok("Whole", e)
			x.tells("a Whole", f)
			continue
		}
		x.told("Whole", e, api.ErrRange)
		if by := differ(x.state(), ahead); by != "" {
			t.Errorf("a Whole that fails changes %s", by)
		}
		x.tells("a Whole that fails", was)
	}
}

// P17.5: in it a Commit and an Abort, which could not be taken back, are refused, and change nothing; behind it, whatever it told, they are done.
func TestCommitWithinWhole(t *testing.T) {
	for _, want := range []api.Errno{api.OK, api.ErrThere} {
		x := anew(t, 60, 8)
		x.create("a", 1000)
		e := x.p.Whole(func() api.Errno {
			x.write(1, 10, 0, 1, 2)
			x.stays("Commit and Abort in a Whole", func() {
				x.told("Commit in a Whole", x.p.Commit(), api.ErrBusy)
				x.told("Abort in a Whole", x.p.Abort(), api.ErrBusy)
			})
			if x.p.Txn().Over() || x.p.Txn().Super().Gen != 1 {
				t.Errorf("in a Whole a Commit is done")
			}
			x.write(1, 20, 0)
			return want
		})
		x.told("Whole", e, want)
		x.counted("a Whole")
		x.commit()
		x.create("b", 5)
		x.ok("Abort", x.p.Abort())
		l, e := x.p.List()
		if e != api.OK || len(l) != 1 || (l[0].Root != 0) != (want == api.OK) {
			t.Errorf("behind all there are %v, %d", l, e)
		}
	}
}

// P17.5: a Whole in a Whole is taken back with it, or alone.
func TestWholeWithinWhole(t *testing.T) {
	for _, inner := range []api.Errno{api.OK, api.ErrFull} {
		for _, outer := range []api.Errno{api.OK, api.ErrNone} {
			x, f := bases()[2].built(t, manners[0], 6)
			was := f.copied()
			l := much()
			e := x.p.Whole(func() api.Errno {
				x.does(l[:9])
				f.said(l[:9])
				x.told("Whole in a Whole", x.p.Whole(func() api.Errno { x.does(l[9:]); return inner }), inner)
				if inner == api.OK {
					f.said(l[9:])
				}
				x.told("Commit in a Whole", x.p.Commit(), api.ErrBusy)
				x.tells("behind a Whole in a Whole", f)
				return outer
			})
			x.told("Whole", e, outer)
			if outer != api.OK {
				f = was
			}
			x.tells("behind all", f)
			x.counted("behind all")
			x.commit()
		}
	}
}

// R1: one that does not come back: all that it did is taken back; the pool goes on.
func TestWholeThatDoesNotComeBack(t *testing.T) {
	for what, end := range map[string]func(){
		"a panic":            func() { panic("of do") },
		"a panic of OK":      func() { panic(api.OK) },
		"a runtime error":    func() { var f func(); f() },
		"a panic of a Whole": nil,
	} {
		x, f := bases()[2].built(t, manners[2], 6)
		ahead := x.state()
		do := func() api.Errno { x.does(much()); end(); return api.OK }
		if end == nil {
			do = func() api.Errno {
				x.does(much()[:5])
				return x.p.Whole(func() api.Errno { x.does(much()[5:]); panic(1) })
			}
		}
		x.told("Whole of "+what, x.p.Whole(do), api.ErrArg)
		if by := differ(x.state(), ahead); by != "" {
			t.Errorf("behind %s %s is changed", what, by)
		}
		x.does(much())
		f.said(much())
		x.tells(what, f)
		x.commit()
	}
}

// R1: one whose goroutine ends in it.
func TestWholeWhoseGoroutineEnds(t *testing.T) {
	x, f := bases()[2].built(t, manners[2], 6)
	var group sync.WaitGroup
	group.Add(1)
	go func() {
		defer group.Done()
		x.p.Whole(func() api.Errno {
			x.does(much())
			runtime.Goexit()
			return api.OK
		})
	}()
	group.Wait()
	x.tells("behind all", f)
	x.counted("behind all")
	x.commit()
}
