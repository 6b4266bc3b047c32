package pieces_test

import (
	"bytes"
	"math"
	"math/big"
	"math/rand/v2"
	"slices"
	"testing"

	"cistern/api"
	"cistern/pieces"
)

const (
	block = 256     // bytes of a block, as the chapter tells it
	most  = 1 << 16 // bytes that are cut at most
	size  = 1 << 32 // bytes that a volume has at most
)

// stretch: a range, n bytes from off on.
type stretch struct{ off, n uint64 }

// numbers: the same pseudo-random numbers in each run.
func numbers(seed uint64) *rand.Rand { return rand.New(rand.NewPCG(18, seed)) }

// noise: n bytes out of r, none of which is 0.
func noise(r *rand.Rand, n int) []byte {
	b := make([]byte, n)
	for i := range b {
		b[i] = byte(1 + r.IntN(255))
	}
	return b
}

// whole: a number without bounds.
func whole(n uint64) *big.Int { return new(big.Int).SetUint64(n) }

// plainWithin: whether off + n, without bounds, is not above so many bytes.
func plainWithin(off, n, size uint64) bool {
	return new(big.Int).Add(whole(off), whole(n)).Cmp(whole(size)) <= 0
}

// plainCut: a range's pieces, byte by byte: one more for each block of which it has a byte.
func plainCut(off, n uint64) []api.Piece {
	if n > most || !plainWithin(off, n, size) {
		return nil
	}
	var l []api.Piece
	for i := range n {
		k, at := (off+i)/block, int((off+i)%block)
		if len(l) == 0 || l[len(l)-1].Block != k {
			l = append(l, api.Piece{Block: k, From: at, At: int(i)})
		}
		l[len(l)-1].To = at + 1
	}
	return l
}

// plainInner: the first block that lies in a range as a whole, and the one behind the last such. Each block is one of those that the range touches, or stands beside them; of a long range only those at its ends are asked.
func plainInner(off, n uint64) (uint64, uint64) {
	if !plainWithin(off, n, size) {
		return 0, 0
	}
	lies := func(k uint64) bool { return k*block >= off && k*block+block <= off+n }
	first, last, found := uint64(0), uint64(0), false
	low, high := off/block, (off+n)/block
	for k := low; k <= high; k++ {
		if k == low+3 && high > low+6 {
			k = high - 3
		}
		if !lies(k) {
			continue
		}
		if !found {
			first, found = k, true
		}
		last = k
	}
	if !found {
		return 0, 0
	}
	return first, last + 1
}

// plainMay: whether a piece may be.
func plainMay(p api.Piece) bool {
	return p.From >= 0 && p.To >= p.From && p.To <= block && p.At >= 0
}

// plainLift: byte by byte, those of a block that are the piece's.
func plainLift(p api.Piece, b []byte) []byte {
	if !plainMay(p) {
		return nil
	}
	var out []byte
	for i := p.From; i < p.To && i < len(b); i++ {
		out = append(out, b[i])
	}
	return out
}

// plainLay: byte by byte, the block's or the data's.
func plainLay(p api.Piece, b, data []byte) []byte {
	out := make([]byte, block)
	for i := range out {
		if i < len(b) {
			out[i] = b[i]
		}
		if !plainMay(p) || i < p.From || i >= p.To {
			continue
		}
		if at := uint64(p.At) + uint64(i-p.From); at < uint64(len(data)) {
			out[i] = data[at]
		}
	}
	return out
}

// cuts: that a range is cut so, and into a list that ends where its room does.
func cuts(t *testing.T, off, n uint64, want []api.Piece) {
	t.Helper()
	got := pieces.Cut(off, n)
	if !slices.Equal(got, want) {
		t.Errorf("Cut(%d, %d) = %v, want %v", off, n, got, want)
	}
	if cap(got) != len(got) {
		t.Errorf("Cut(%d, %d) has room for %d pieces behind its last", off, n, cap(got)-len(got))
	}
}

// inner: that these are a range's inner blocks.
func inner(t *testing.T, off, n, first, behind uint64) {
	t.Helper()
	if a, b := pieces.Inner(off, n); a != first || b != behind {
		t.Errorf("Inner(%d, %d) = %d, %d, want %d, %d", off, n, a, b, first, behind)
	}
}

// lifts: that a piece is lifted so, and into bytes that end where their room does.
func lifts(t *testing.T, p api.Piece, b, want []byte) {
	t.Helper()
	got := pieces.Lift(p, b)
	if !bytes.Equal(got, want) {
		t.Errorf("Lift(%v) of %d bytes = % x, want % x", p, len(b), got, want)
	}
	if cap(got) != len(got) {
		t.Errorf("Lift(%v) of %d bytes has room for %d bytes behind its last", p, len(b), cap(got)-len(got))
	}
}

// lays: that a piece is laid so, and into a block that ends where its room does.
func lays(t *testing.T, p api.Piece, b, data, want []byte) {
	t.Helper()
	got := pieces.Lay(p, b, data)
	if !bytes.Equal(got, want) {
		t.Errorf("Lay(%v) of %d bytes in %d = % x, want % x", p, len(data), len(b), got, want)
	}
	if cap(got) != len(got) {
		t.Errorf("Lay(%v) of %d bytes in %d has room for %d bytes behind its last", p, len(data), len(b), cap(got)-len(got))
	}
}

// alike: that all that is told of a range is what its bytes tell.
func alike(t *testing.T, x stretch) {
	t.Helper()
	cuts(t, x.off, x.n, plainCut(x.off, x.n))
	first, behind := plainInner(x.off, x.n)
	inner(t, x.off, x.n, first, behind)
	for _, size := range []uint64{0, x.n, x.off, x.off + x.n, x.off + x.n - 1, x.off + x.n + 1, size} {
		if got, want := pieces.Within(x.off, x.n, size), plainWithin(x.off, x.n, size); got != want {
			t.Errorf("Within(%d, %d, %d) = %t", x.off, x.n, size, got)
		}
	}
}

// beside: numbers, and those next to them.
func beside(l ...uint64) []uint64 {
	var all []uint64
	for _, x := range l {
		all = append(all, x-1, x, x+1)
	}
	slices.Sort(all)
	return slices.Compact(all)
}

// edges: numbers at which a block, a range, a volume or what 64 bits hold ends, or one of their bits does, and those next to them.
func edges() []uint64 {
	l := []uint64{0, block, 2 * block, 3 * block, most - block, most, most + block, size - most - block, size - most, size - 2*block, size - block, size, size + block, size + most, math.MaxInt64, math.MaxUint64 - block, math.MaxUint64}
	for i := range 64 {
		l = append(l, 1<<i)
	}
	return beside(l...)
}

// ends: whole numbers as far as an int goes, those at the ends of a block, and those next to them.
func ends() []int {
	l := []int{math.MinInt, math.MinInt + 1, math.MinInt + 255, math.MinInt + 256, -1 << 32, -1<<31 - 1, -1 << 31, -512, -257, -256, -255, -2, -1}
	l = append(l, 0, 1, 2, 3, 5, 100, 127, 128, 129, 200, 254, 255, 256, 257, 258, 511, 512, 513)
	return append(l, most-1, most, most+1, 1<<31-1, 1<<31, 1<<32-1, 1<<32, 1<<32+1, 1<<32+255, 1<<32+256, math.MaxInt-256, math.MaxInt-255, math.MaxInt-1, math.MaxInt)
}

// rooms: as many bytes, at the beginning of more, which are to stay as they are.
func rooms(b []byte) []byte {
	return append(bytes.Clone(b), bytes.Repeat([]byte{0xee}, 300)...)[:len(b)]
}

// parted: a range at random, in any place, or near the end of a block, or of a volume.
func parted(r *rand.Rand) stretch {
	off := []uint64{r.Uint64N(size), r.Uint64N(4 * block), r.Uint64N(size/block) * block, size - r.Uint64N(3*block), size - r.Uint64N(most+block)}[r.IntN(5)]
	n := []uint64{r.Uint64N(3), r.Uint64N(3 * block), r.Uint64N(6) * block, r.Uint64N(most), most - r.Uint64N(3)}[r.IntN(5)]
	if r.IntN(3) == 0 { // up to the end of a block
		n += (block - (off+n)%block) % block
	}
	return stretch{off, n}
}
