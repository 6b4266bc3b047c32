package pieces_test

import (
	"math"
	"slices"
	"testing"

	"cistern/api"
	"cistern/pieces"
)

// TestWithinAtEdges: P18.1, each three of the edges, held against numbers without bounds.
func TestWithinAtEdges(t *testing.T) {
	l := edges()
	for _, off := range l {
		for _, n := range l {
			for _, size := range l {
				if got, want := pieces.Within(off, n, size), plainWithin(off, n, size); got != want {
					t.Fatalf("Within(%d, %d, %d) = %t", off, n, size, got)
				}
			}
		}
	}
}

// TestWithinAtItsEnd: P18.1, ranges that end at, just ahead of and just behind so many bytes, and above what 64 bits hold.
func TestWithinAtItsEnd(t *testing.T) {
	for _, x := range []struct {
		off, n, size uint64
		want         bool
	}{
		{0, 0, 0, true}, {0, 1, 0, false}, {1, 0, 0, false}, {1, 0, 1, true}, {5, 0, 5, true}, {6, 0, 5, false},
		{0, 5, 5, true}, {0, 6, 5, false}, {1, 4, 5, true}, {1, 5, 5, false}, {4, 1, 5, true}, {4, 2, 5, false}, {2, 2, 5, true},
		{math.MaxUint64, 0, math.MaxUint64, true}, {0, math.MaxUint64, math.MaxUint64, true},
		{math.MaxUint64, 1, math.MaxUint64, false}, {1, math.MaxUint64, math.MaxUint64, false},
		{1, math.MaxUint64 - 1, math.MaxUint64, true}, {1 << 63, 1<<63 - 1, math.MaxUint64, true}, {1 << 63, 1 << 63, math.MaxUint64, false},
		{1 << 63, 1 << 63, 0, false}, {math.MaxUint64, 1, 0, false}, {math.MaxUint64, 6, 5, false}, {6, math.MaxUint64, 5, false},
		{math.MaxUint64, math.MaxUint64, math.MaxUint64 - 1, false}, {math.MaxUint64, math.MaxUint64, math.MaxUint64, false},
	} {
		if got := pieces.Within(x.off, x.n, x.size); got != x.want {
			t.Errorf("Within(%d, %d, %d) = %t", x.off, x.n, x.size, got)
		}
	}
}

// TestWithinOfFew: P18.1, all numbers up to 20.
func TestWithinOfFew(t *testing.T) {
	for off := range uint64(21) {
		for n := range uint64(21) {
			for size := range uint64(21) {
				if got := pieces.Within(off, n, size); got != (off+n <= size) {
					t.Errorf("Within(%d, %d, %d) = %t", off, n, size, got)
				}
			}
		}
	}
}

// TestRangesAtRandom: P18.1 to P18.3, held against their bytes counted one by one.
func TestRangesAtRandom(t *testing.T) {
	r := numbers(2)
	for range 1500 {
		alike(t, parted(r))
	}
	for range 500 { // most of these do not lie within a volume
		alike(t, stretch{r.Uint64() >> r.IntN(64), r.Uint64() >> r.IntN(64)})
	}
}

// TestSmallRanges: P18.1 to P18.3, all ranges of up to two blocks and some more, from each byte of the first block and the first ones of the second on.
func TestSmallRanges(t *testing.T) {
	for off := range uint64(block + 3) {
		for n := range uint64(2*block + 3) {
			alike(t, stretch{off, n})
		}
	}
}

// TestLongerRanges: P18.1 to P18.3, from the second block on, too, and over three of them.
func TestLongerRanges(t *testing.T) {
	for off := range uint64(2*block + 3) {
		for _, n := range beside(2*block+1, 3*block, 3*block+100, 4*block) {
			alike(t, stretch{off, n})
		}
	}
	for _, off := range beside(1, block, 2*block-1) {
		for n := range uint64(3*block + 3) {
			alike(t, stretch{off, n})
		}
	}
}

// TestRangesAtEdges: P18.2, P18.3, each two of the edges.
func TestRangesAtEdges(t *testing.T) {
	l := edges()
	for _, off := range l {
		for _, n := range l {
			alike(t, stretch{off, n})
		}
	}
}

// TestCutOfNone: P18.2, no byte, no piece, wherever that is.
func TestCutOfNone(t *testing.T) {
	for _, off := range edges() {
		cuts(t, off, 0, nil)
	}
}

// TestCutOfOne: P18.2, one byte: its place in its block.
func TestCutOfOne(t *testing.T) {
	for _, k := range []uint64{0, 1, 2, 255, 256, 1<<16 - 1, 1 << 16, 1<<24 - 2, 1<<24 - 1} {
		for i := range block {
			cuts(t, k*block+uint64(i), 1, []api.Piece{{Block: k, From: i, To: i + 1, At: 0}})
		}
	}
	cuts(t, size, 1, nil)
	cuts(t, size-1, 1, []api.Piece{{Block: 1<<24 - 1, From: 255, To: 256, At: 0}})
}

// TestCutOfMost: P18.2, as many bytes as are cut at most, and one more; from the end of a block on, too.
func TestCutOfMost(t *testing.T) {
	for _, off := range []uint64{0, 1, 255, 256, 257, 1000, size - most - 1, size - most} {
		for _, n := range []uint64{most - 1, most} {
			want := plainCut(off, n)
			if blocks := (off+n-1)/block - off/block + 1; uint64(len(want)) != blocks {
				t.Fatalf("%d pieces, %d blocks", len(want), blocks)
			}
			cuts(t, off, n, want)
		}
		for _, n := range []uint64{most + 1, most + 2, most + block, 2 * most, size, size + 1, 1 << 63, math.MaxUint64} {
			cuts(t, off, n, nil)
		}
	}
	cuts(t, 0, most, plainCut(0, most))
	if l := pieces.Cut(0, most); len(l) != 256 {
		t.Errorf("Cut(0, %d) has %d pieces", most, len(l))
	}
	if l := pieces.Cut(1, most); len(l) != 257 {
		t.Errorf("Cut(1, %d) has %d pieces", most, len(l))
	}
}

// TestCutAtTheEnd: P18.2, ranges that end at the end of the greatest volume, just ahead of it, just behind it, and above what 64 bits hold.
func TestCutAtTheEnd(t *testing.T) {
	for _, n := range []uint64{1, 2, 255, 256, 257, 512, most - 1, most} {
		cuts(t, size-n, n, plainCut(size-n, n))
		cuts(t, size-n-1, n, plainCut(size-n-1, n))
		if len(pieces.Cut(size-n, n)) == 0 || len(pieces.Cut(size-n-1, n)) == 0 {
			t.Errorf("nothing of %d bytes", n)
		}
		cuts(t, size-n+1, n, nil)
		cuts(t, size, n, nil)
		cuts(t, math.MaxUint64, n, nil)   // with the first byte they would be behind what 64 bits hold, and wrap to the beginning
		cuts(t, math.MaxUint64-n, n, nil) // they end at what 64 bits hold
		cuts(t, -n, n, nil)               // one more: their end would be 0
		cuts(t, 1-n, n, plainCut(1-n, n)) // and one more
		cuts(t, 1<<63, n, nil)
	}
	cuts(t, size-1, 2, nil)
	cuts(t, size-1, 1, []api.Piece{{Block: 1<<24 - 1, From: 255, To: 256, At: 0}})
}

// TestCutByHand: P18.2, ranges within one block, from one into the next, over whole blocks alone, and over all of these.
func TestCutByHand(t *testing.T) {
	cuts(t, 0, 255, []api.Piece{{Block: 0, From: 0, To: 255, At: 0}})
	cuts(t, 0, 256, []api.Piece{{Block: 0, From: 0, To: 256, At: 0}})
	cuts(t, 1, 255, []api.Piece{{Block: 0, From: 1, To: 256, At: 0}})
	cuts(t, 0, 257, []api.Piece{{Block: 0, From: 0, To: 256, At: 0}, {Block: 1, From: 0, To: 1, At: 256}})
	cuts(t, 255, 2, []api.Piece{{Block: 0, From: 255, To: 256, At: 0}, {Block: 1, From: 0, To: 1, At: 1}})
	cuts(t, 512, 512, []api.Piece{{Block: 2, From: 0, To: 256, At: 0}, {Block: 3, From: 0, To: 256, At: 256}})
	cuts(t, 1000, 300, []api.Piece{{Block: 3, From: 232, To: 256, At: 0}, {Block: 4, From: 0, To: 256, At: 24}, {Block: 5, From: 0, To: 20, At: 280}})
	cuts(t, size-257, 257, []api.Piece{{Block: 1<<24 - 2, From: 255, To: 256, At: 0}, {Block: 1<<24 - 1, From: 0, To: 256, At: 1}})
}

// TestInnerByHand: P18.3, no whole block, one, several, all of the greatest volume, and ranges that do not lie within it.
func TestInnerByHand(t *testing.T) {
	for _, x := range []struct{ off, n, first, behind uint64 }{
		{0, 0, 0, 0}, {256, 0, 0, 0}, {300, 0, 0, 0}, {size, 0, 0, 0}, // nothing
		{0, 255, 0, 0}, {1, 255, 0, 0}, {1, 256, 0, 0}, {255, 2, 0, 0}, {257, 510, 0, 0}, {1, 510, 0, 0}, // none whole
		{0, 256, 0, 1}, {0, 257, 0, 1}, {0, 511, 0, 1}, {1, 511, 1, 2}, {255, 257, 1, 2}, {255, 258, 1, 2}, {256, 256, 1, 2}, // one
		{0, 512, 0, 2}, {256, 768, 1, 4}, {1, 1023, 1, 4}, {1, 1022, 1, 3}, // several
		{0, size, 0, 1 << 24}, {1, size - 1, 1, 1 << 24}, {0, size - 1, 0, 1<<24 - 1}, {1, size - 2, 1, 1<<24 - 1},
		{size - 256, 256, 1<<24 - 1, 1 << 24}, {size - 257, 256, 0, 0}, {size - 512, 511, 1<<24 - 2, 1<<24 - 1},
		{0, size + 1, 0, 0}, {1, size, 0, 0}, {size - 256, 257, 0, 0}, {size - 255, 256, 0, 0}, {size, 256, 0, 0}, // outside
		{1 << 63, 1 << 63, 0, 0}, {math.MaxUint64, 1, 0, 0}, {math.MaxUint64 - 255, 512, 0, 0}, {512, math.MaxUint64, 0, 0}, {math.MaxUint64 - 511, 512, 0, 0},
	} {
		inner(t, x.off, x.n, x.first, x.behind)
	}
}

// TestInnerOfMany: P18.3, ranges of more bytes than are cut, too.
func TestInnerOfMany(t *testing.T) {
	inner(t, 1, most, 1, 256)
	inner(t, 0, most+1, 0, 256)
	inner(t, 255, 2*most, 1, 512)
	inner(t, most, size-most, 256, 1<<24)
}

// TestInnerIsOfPieces: P18.3, the inner blocks are those of which a piece has all bytes.
func TestInnerIsOfPieces(t *testing.T) {
	r := numbers(3)
	for range 3000 {
		x := parted(r)
		l := pieces.Cut(x.off, x.n)
		if len(l) == 0 {
			continue
		}
		l = slices.DeleteFunc(l, func(p api.Piece) bool { return p.To-p.From < block })
		if len(l) == 0 {
			inner(t, x.off, x.n, 0, 0)
		} else {
			inner(t, x.off, x.n, l[0].Block, l[len(l)-1].Block+1)
		}
	}
}

// TestPiecesHaveAll: P18.6, all bytes, each once; each piece begins where the one ahead of it ended, all but the last end with their block.
func TestPiecesHaveAll(t *testing.T) {
	r := numbers(4)
	done := 0
	for range 3000 {
		x := parted(r)
		if x.n > most || !plainWithin(x.off, x.n, size) {
			continue
		}
		next := x.off
		l := pieces.Cut(x.off, x.n)
		for i, p := range l {
			if !plainMay(p) || p.From == p.To {
				t.Fatalf("%v: %v may not be", x, p)
			}
			if begins := p.Block*block + uint64(p.From); begins != next || begins-x.off != uint64(p.At) {
				t.Fatalf("%v: %v begins at %d, not %d", x, p, begins, next)
			}
			if i > 0 && p.From != 0 || i < len(l)-1 && p.To != block {
				t.Fatalf("%v: %v is cut within its block", x, p)
			}
			next += uint64(p.To - p.From)
		}
		if next != x.off+x.n {
			t.Fatalf("%v: the pieces end at %d", x, next)
		}
		done++
	}
	if done < 1000 {
		t.Errorf("%d ranges alone were cut", done)
	}
}

// joined: the pieces of two ranges, one behind the other, as those of the whole: n bytes are ahead of the second.
func joined(a, b []api.Piece, n uint64) []api.Piece {
	l := slices.Clone(a)
	for i, p := range b {
		p.At += int(n)
		if i == 0 && len(a) > 0 && a[len(a)-1].Block == p.Block {
			l[len(l)-1].To = p.To
			continue
		}
		l = append(l, p)
	}
	return l
}

// TestTwoRanges: P18.7, wherever the one ends and the other begins.
func TestTwoRanges(t *testing.T) {
	two := func(off, n, m uint64) {
		t.Helper()
		got := joined(pieces.Cut(off, n), pieces.Cut(off+n, m), n)
		if want := pieces.Cut(off, n+m); !slices.Equal(got, want) {
			t.Errorf("%d bytes at %d and %d behind them: %v, want %v", n, off, m, got, want)
		}
	}
	for _, off := range []uint64{0, 1, 255, 256, 300, size - 700} {
		for n := range uint64(701) {
			two(off, n, 700-n)
		}
	}
	r := numbers(5)
	for range 1000 {
		n := r.Uint64N(most + 1)
		two(r.Uint64N(size-most+1), n, r.Uint64N(most-n+1))
		two(r.Uint64N(size-most+1), n, most-n)
		two(size-most, n, most-n)
	}
}
