package pieces_test

import (
	"math"
	"slices"
	"sync"
	"testing"

	"cistern/api"
	"cistern/pieces"
)

// taker: who is handed pieces, and tells an error at one of them.
type taker struct {
	got []api.Piece
	at  int
	e   api.Errno
}

// take: one more piece.
func (x *taker) take(p api.Piece) api.Errno {
	x.got = append(x.got, p)
	if len(x.got)-1 == x.at {
		return x.e
	}
	return api.OK
}

// some: n pieces, each another one; most of them may not be.
func some(n int) []api.Piece {
	l := make([]api.Piece, n)
	for i := range l {
		l[i] = api.Piece{Block: math.MaxUint64 - uint64(i), From: 300 - i, To: i - 3, At: -i}
	}
	return l
}

// errnos: all of them, and numbers that are none.
func errnos() []api.Errno {
	return []api.Errno{api.ErrArg, api.ErrNil, api.ErrLong, api.ErrShort, api.ErrForm, api.ErrNone, api.ErrThere, api.ErrFull, api.ErrOff, api.ErrSum, api.ErrPlace, api.ErrKind, api.ErrPool, api.ErrRead, api.ErrRange, api.ErrBusy, api.ErrMagic, api.ErrClose, -1, 99, math.MinInt, math.MaxInt}
}

// TestEachOfAll: P18.5, no error: all pieces, in order, each once; of none, of one, of many.
func TestEachOfAll(t *testing.T) {
	for _, n := range []int{0, 1, 2, 3, 7, 256, 257, 1000} {
		x := taker{at: -1}
		l := some(n)
		if e := pieces.Each(l, x.take); e != api.OK {
			t.Errorf("Each of %d pieces = %d", n, e)
		}
		if !slices.Equal(x.got, l) || !slices.Equal(l, some(n)) {
			t.Errorf("of %d pieces these are handed on: %v", n, x.got)
		}
	}
}

// TestEachUpToAnError: P18.5, at the first piece, at one in between, at the last: that error, and no piece behind.
func TestEachUpToAnError(t *testing.T) {
	for _, n := range []int{1, 2, 3, 8} {
		for at := range n {
			for _, e := range errnos() {
				x := taker{at: at, e: e}
				if got := pieces.Each(some(n), x.take); got != e {
					t.Errorf("Each of %d pieces, of which %d tells %d: %d", n, at, e, got)
				}
				if !slices.Equal(x.got, some(n)[:at+1]) {
					t.Errorf("of %d pieces, of which %d tells %d, these are handed on: %v", n, at, e, x.got)
				}
			}
		}
	}
}

// TestEachOfManyErrors: P18.5, each piece tells another error: the first one's.
func TestEachOfManyErrors(t *testing.T) {
	calls := 0
	e := pieces.Each(some(5), func(p api.Piece) api.Errno {
		calls++
		return api.Errno(29 + calls)
	})
	if e != 30 || calls != 1 {
		t.Errorf("Each = %d behind %d calls", e, calls)
	}
}

// TestEachOfOnePieceTwice: P18.5, it is handed on twice.
func TestEachOfOnePieceTwice(t *testing.T) {
	p := api.Piece{Block: 1, From: 2, To: 3, At: 4}
	x := taker{at: -1}
	if e := pieces.Each([]api.Piece{p, p, p}, x.take); e != api.OK || !slices.Equal(x.got, []api.Piece{p, p, p}) {
		t.Errorf("Each = %d, %v", e, x.got)
	}
}

// TestEachWithinEach: P18.5, of pieces of others; each call tells its own.
func TestEachWithinEach(t *testing.T) {
	var seen []int
	e := pieces.Each(pieces.Cut(0, 1024), func(p api.Piece) api.Errno {
		x := taker{at: int(p.Block), e: api.ErrFull}
		e := pieces.Each(some(3), x.take)
		seen = append(seen, len(x.got))
		if p.Block < 3 && e != api.ErrFull || p.Block == 3 && e != api.OK {
			return api.ErrForm
		}
		return api.OK
	})
	if e != api.OK || !slices.Equal(seen, []int{1, 2, 3, 3}) {
		t.Errorf("Each = %d, %v", e, seen)
	}
}

// TestEachOfNoFunction: R1, P18.5: it tells no error of no piece, and may not be with one.
func TestEachOfNoFunction(t *testing.T) {
	for _, l := range [][]api.Piece{nil, {}, make([]api.Piece, 0, 4)} {
		if e := pieces.Each(l, nil); e != api.OK {
			t.Errorf("Each of no piece = %d", e)
		}
	}
	for _, n := range []int{1, 2} {
		if e := pieces.Each(some(n), nil); e != api.ErrArg {
			t.Errorf("Each of %d pieces = %d", n, e)
		}
	}
}

// TestEachOfAPanic: R1, no call panics; nothing is handed on behind it.
func TestEachOfAPanic(t *testing.T) {
	for _, with := range []any{"x", 5, nil, api.OK, api.ErrFull} {
		calls := 0
		e := pieces.Each(some(4), func(api.Piece) api.Errno {
			if calls++; calls == 3 {
				panic(with)
			}
			return api.OK
		})
		if e != api.ErrArg || calls != 3 {
			t.Errorf("a panic with %v: %d behind %d calls", with, e, calls)
		}
	}
	var none *taker
	if e := pieces.Each(some(1), none.take); e != api.ErrArg {
		t.Errorf("a method of none: %d", e)
	}
}

// TestCutIsNew: R3, what was told is told again, whatever became of it.
func TestCutIsNew(t *testing.T) {
	l := pieces.Cut(250, 1000)
	want := slices.Clone(l)
	for i := range l {
		l[i] = api.Piece{Block: 7, From: 7, To: 7, At: 7}
	}
	l = append(l, api.Piece{})
	cuts(t, 250, 1000, want)
	cuts(t, 250, 1000, want)
}

// TestAtOnce: R7, what is told hangs on what was called alone, whoever calls at the same time.
func TestAtOnce(t *testing.T) {
	var g sync.WaitGroup
	for i := range uint64(8) {
		g.Go(func() {
			r := numbers(20 + i)
			for range 200 {
				x := parted(r)
				cuts(t, x.off, x.n, plainCut(x.off, x.n))
				first, behind := plainInner(x.off, x.n)
				inner(t, x.off, x.n, first, behind)
				p, b := api.Piece{From: r.IntN(128), To: 128 + r.IntN(128), At: r.IntN(9)}, noise(r, 256)
				lays(t, p, b, b[9:], plainLay(p, b, b[9:]))
				y := taker{at: r.IntN(5), e: api.ErrFull}
				if e := pieces.Each(some(5), y.take); e != api.ErrFull || len(y.got) != y.at+1 {
					t.Errorf("Each = %d behind %d pieces", e, len(y.got))
				}
			}
		})
	}
	g.Wait()
}
