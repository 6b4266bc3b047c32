package super_test

import (
	"bytes"
	"encoding/binary"
	"math"
	"math/rand/v2"
	"testing"

	"cistern/api"
	"cistern/super"
)

// plainMay: whether a superblock may be, by the chapter's words.
func plainMay(s api.Super) bool {
	const top = uint64(4611686018427387903)
	if s.Gen < 1 || s.Gen > top || s.Next < 1 || s.Next > top {
		return false
	}
	return s.Blocks >= 16 && s.Blocks <= 1024 && s.Dir < uint64(s.Blocks)
}

// plain: the bytes that the chapter's words make of a superblock, be it one that may be or not.
func plain(s api.Super) []byte {
	b := []byte{'c', 'i', 's', 't'}
	b = binary.BigEndian.AppendUint64(b, s.Gen)
	b = binary.BigEndian.AppendUint64(b, uint64(int64(s.Blocks)))
	b = binary.BigEndian.AppendUint64(b, s.Dir)
	b = binary.BigEndian.AppendUint64(b, s.Next)
	b = append(b, make([]byte, 20)...)
	return binary.BigEndian.AppendUint64(b, s.Gen)
}

// plainTake: what Take should tell.
func plainTake(b []byte) (api.Super, api.Errno) {
	if len(b) < 64 {
		return api.Super{}, api.ErrShort
	}
	if len(b) > 64 {
		return api.Super{}, api.ErrLong
	}
	word := func(at int) uint64 { return binary.BigEndian.Uint64(b[at:]) }
	if string(b[:4]) != "cist" || word(4) != word(56) || !bytes.Equal(b[36:56], make([]byte, 20)) || word(12) > math.MaxInt {
		return api.Super{}, api.ErrPool
	}
	s := api.Super{Gen: word(4), Blocks: int(word(12)), Dir: word(20), Next: word(28)}
	if !plainMay(s) {
		return api.Super{}, api.ErrPool
	}
	return s, api.OK
}

// plainChoose: what Choose should tell.
func plainChoose(a, b []byte) (api.Super, int, api.Errno) {
	s, e := plainTake(a)
	first := e == api.OK && s.Gen%2 == 0
	u, e := plainTake(b)
	second := e == api.OK && u.Gen%2 == 1
	switch {
	case first && (!second || s.Gen > u.Gen):
		return s, 0, api.OK
	case second:
		return u, 1, api.OK
	}
	return api.Super{}, 0, api.ErrPool
}

// takes: Take tells of b what it should, and leaves b as it is.
func takes(t *testing.T, b []byte) {
	t.Helper()
	was := bytes.Clone(b)
	s, e := super.Take(b)
	if want, wantE := plainTake(b); s != want || e != wantE {
		t.Fatalf("Take(% x) = %v, %v; want %v, %v", b, s, e, want, wantE)
	}
	if !bytes.Equal(b, was) {
		t.Fatalf("Take(% x) changed what it was handed to % x", was, b)
	}
}

// chooses: Choose tells of a and b what it should, and leaves both as they are.
func chooses(t *testing.T, a, b []byte) {
	t.Helper()
	wasA, wasB := bytes.Clone(a), bytes.Clone(b)
	s, slot, e := super.Choose(a, b)
	if want, wantSlot, wantE := plainChoose(a, b); s != want || slot != wantSlot || e != wantE {
		t.Fatalf("Choose(% x, % x) = %v, %d, %v; want %v, %d, %v", a, b, s, slot, e, want, wantSlot, wantE)
	}
	if !bytes.Equal(a, wasA) || !bytes.Equal(b, wasB) {
		t.Fatalf("Choose(% x, % x) changed what it was handed", wasA, wasB)
	}
}

// rising: numbers at and about the edges of Gen and Next.
var rising = []uint64{0, 1, 2, 3, 255, 256, 1 << 32, 1<<61 + 5, 1<<62 - 2, 1<<62 - 1, 1 << 62, 1<<62 + 1, 1<<63 - 1, 1 << 63, 1<<63 + 1, math.MaxUint64 - 1, math.MaxUint64}

// sizes: numbers at and about the edges of Blocks, and such as would be right if only their low bytes were taken.
var sizes = []int{math.MinInt, math.MinInt + 16, -1 << 32, -1024, -16, -1, 0, 1, 15, 16, 17, 60, 255, 256, 257, 1023, 1024, 1025, 1 << 16, 1<<16 + 16, 1 << 32, 1<<32 + 16, 1<<62 + 60, math.MaxInt}

// roots: numbers at and about the edges of Dir on a disk of so many blocks.
func roots(blocks int) []uint64 {
	n := uint64(blocks)
	return []uint64{0, 1, 14, 15, 16, n / 2, n - 1, n, n + 1, 1023, 1024, 1025, 1 << 16, 1 << 32, 1 << 62, 1 << 63, math.MaxUint64}
}

// edges: all superblocks of numbers at and about their edges.
func edges(yield func(api.Super) bool) {
	for _, gen := range rising {
		for _, blocks := range sizes {
			for _, dir := range roots(blocks) {
				for _, next := range rising {
					if !yield(api.Super{Gen: gen, Blocks: blocks, Dir: dir, Next: next}) {
						return
					}
				}
			}
		}
	}
}

// number: one from 1 to 2^62 - 1, of any length.
func number(r *rand.Rand) uint64 { return 1 + r.Uint64N(1<<62-1)>>r.IntN(62) }

// some: a superblock that may be.
func some(r *rand.Rand) api.Super {
	blocks := 16 + r.IntN(1009)
	return api.Super{Gen: number(r), Blocks: blocks, Dir: r.Uint64N(uint64(blocks)), Next: number(r)}
}

// put: what Put answers, where it has to answer a form.
func put(t *testing.T, s api.Super) []byte {
	t.Helper()
	b, e := super.Put(s)
	if e != api.OK {
		t.Fatalf("Put(%v): %v", s, e)
	}
	return b
}

// TestPut: P14.1, at every edge of every number, with all others.
func TestPut(t *testing.T) {
	for s := range edges {
		if got := super.May(s); got != plainMay(s) {
			t.Fatalf("May(%v) = %v", s, got)
		}
		want, wantE := plain(s), api.OK
		if !plainMay(s) {
			want, wantE = nil, api.ErrArg
		}
		if b, e := super.Put(s); !bytes.Equal(b, want) || e != wantE {
			t.Fatalf("Put(%v) = % x, %v; want % x, %v", s, b, e, want, wantE)
		}
	}
}

// TestEdges: P14.1's edges one by one, written out.
func TestEdges(t *testing.T) {
	right := api.Super{Gen: 1, Blocks: 16, Dir: 0, Next: 1}
	with := func(change func(*api.Super)) api.Super {
		s := right
		change(&s)
		return s
	}
	rows := []struct {
		s    api.Super
		want bool
	}{
		{right, true},
		{api.Super{}, false},
		{with(func(s *api.Super) { s.Gen = 0 }), false},
		{with(func(s *api.Super) { s.Gen = 4611686018427387903 }), true},
		{with(func(s *api.Super) { s.Gen = 4611686018427387904 }), false},
		{with(func(s *api.Super) { s.Gen = 18446744073709551615 }), false},
		{with(func(s *api.Super) { s.Blocks = 15 }), false},
		{with(func(s *api.Super) { s.Blocks = 1024 }), true},
		{with(func(s *api.Super) { s.Blocks = 1025 }), false},
		{with(func(s *api.Super) { s.Blocks = -1 }), false},
		{with(func(s *api.Super) { s.Dir = 15 }), true},
		{with(func(s *api.Super) { s.Dir = 16 }), false},
		{with(func(s *api.Super) { s.Blocks, s.Dir = 1024, 1023 }), true},
		{with(func(s *api.Super) { s.Blocks, s.Dir = 1024, 1024 }), false},
		{with(func(s *api.Super) { s.Next = 0 }), false},
		{with(func(s *api.Super) { s.Next = 4611686018427387903 }), true},
		{with(func(s *api.Super) { s.Next = 4611686018427387904 }), false},
	}
	for _, row := range rows {
		if super.May(row.s) != row.want {
			t.Errorf("May(%v) = %v", row.s, !row.want)
		}
		want := api.OK
		if !row.want {
			want = api.ErrArg
		}
		if b, e := super.Put(row.s); e != want || (len(b) == 64) != row.want {
			t.Errorf("Put(%v) = %d bytes, %v", row.s, len(b), e)
		}
	}
}

// TestTakeOfNumbers: P14.2, of forms whose numbers are at their edges, those that may not be, too.
func TestTakeOfNumbers(t *testing.T) {
	for s := range edges {
		takes(t, plain(s))
	}
}

// TestTakeOfLengths: P14.2, of fewer bytes and of more, be they a form's or not; too few or too many come ahead of what they are.
func TestTakeOfLengths(t *testing.T) {
	takes(t, nil)
	for _, s := range []api.Super{{Gen: 1, Blocks: 16, Next: 1}, {Gen: 9, Blocks: 60, Dir: 59, Next: 3}, {Gen: 0, Blocks: 5, Dir: 9, Next: 0}} {
		long := append(plain(s), plain(s)...)
		for n := range len(long) + 1 {
			takes(t, long[:n])
			takes(t, long[len(long)-n:])
			takes(t, make([]byte, n))
		}
	}
	takes(t, make([]byte, 1<<16))
}

// TestTakeOfOtherBytes: P14.2, each byte of a form every other one it can be.
func TestTakeOfOtherBytes(t *testing.T) {
	for _, s := range []api.Super{{Gen: 1, Blocks: 16, Next: 1}, {Gen: 1<<62 - 1, Blocks: 1024, Dir: 1023, Next: 1<<62 - 1}, {Gen: 0x0102030405060708, Blocks: 0x0203, Dir: 0x0102, Next: 0x1112131415161718}} {
		b := put(t, s)
		for at := range b {
			was := b[at]
			for x := range 256 {
				b[at] = byte(x)
				takes(t, b)
			}
			b[at] = was
		}
	}
}

// TestTakeOfOneByteOff: P14.2, a letter, a nought, a byte of either Gen: none of them may be another one, and no other superblock is told then.
func TestTakeOfOneByteOff(t *testing.T) {
	b := put(t, api.Super{Gen: 0x0102030405060708, Blocks: 100, Dir: 7, Next: 9})
	for at := range b {
		if at >= 12 && at < 36 {
			continue // Blocks, Dir and Next stand there once
		}
		for bit := range 8 {
			b[at] ^= 1 << bit
			if s, e := super.Take(b); e != api.ErrPool || s != (api.Super{}) {
				t.Fatalf("Take with byte %d turned at bit %d: %v, %v", at, bit, s, e)
			}
			b[at] ^= 1 << bit
		}
	}
}

// TestTakeOfAnything: P14.2, of bytes that are anything, and of forms with some of their bytes anything.
func TestTakeOfAnything(t *testing.T) {
	r := rand.New(rand.NewPCG(14, 1))
	for range 20000 {
		b := plain(some(r))
		for range r.IntN(4) {
			b[r.IntN(len(b))] = byte(r.Uint32())
		}
		takes(t, b)
		for i := range b {
			b[i] = byte(r.Uint32())
		}
		takes(t, b)
		copy(b, "cist")
		copy(b[56:], b[4:12])
		takes(t, b)
	}
}

// slotted: bytes that may stand in a slot, right ones and wrong ones.
func slotted() [][]byte {
	const top = 1<<62 - 1
	all := [][]byte{nil, {}, make([]byte, 63), make([]byte, 64), make([]byte, 65), bytes.Repeat([]byte{255}, 64)}
	for _, gen := range []uint64{0, 1, 2, 3, 4, 5, 254, 255, 256, 257, 1 << 32, 1<<32 + 1, top - 2, top - 1, top, top + 1, top + 2, math.MaxUint64} {
		for _, s := range []api.Super{{Gen: gen, Blocks: 16, Next: 1}, {Gen: gen, Blocks: 1024, Dir: 1023, Next: top}, {Gen: gen, Blocks: 15, Next: 1}} {
			all = append(all, plain(s))
		}
		b := plain(api.Super{Gen: gen, Blocks: 60, Dir: 1, Next: 2})
		all = append(all, b[:63], append(bytes.Clone(b), 0))
		for _, at := range []int{0, 11, 40, 63} {
			broken := bytes.Clone(b)
			broken[at] ^= 2
			all = append(all, broken)
		}
	}
	return all
}

// TestChoose: P14.3, of all pairs of what may stand in a slot: forms in their own slots, in each other's, and such as are none.
func TestChoose(t *testing.T) {
	all := slotted()
	for _, a := range all {
		for _, b := range all {
			chooses(t, a, b)
		}
	}
}

// TestChooseByHand: P14.3's edges one by one, written out.
func TestChooseByHand(t *testing.T) {
	of := func(gen uint64) []byte { return put(t, api.Super{Gen: gen, Blocks: 16, Next: 1}) }
	none := make([]byte, 64)
	rows := []struct {
		a, b []byte
		gen  uint64
		slot int
		e    api.Errno
	}{
		{of(2), of(1), 2, 0, api.OK},
		{of(2), of(3), 3, 1, api.OK},
		{of(2), of(4), 2, 0, api.OK}, // 4 is not in its slot
		{of(3), of(1), 1, 1, api.OK}, // nor is 3
		{of(1), of(2), 0, 0, api.ErrPool},
		{of(1), of(1), 1, 1, api.OK},
		{of(2), of(2), 2, 0, api.OK},
		{of(256), of(255), 256, 0, api.OK},
		{of(1<<62 - 2), of(1<<62 - 1), 1<<62 - 1, 1, api.OK},
		{of(1<<62 - 2), of(1), 1<<62 - 2, 0, api.OK},
		{none, of(1), 1, 1, api.OK},
		{of(2), none, 2, 0, api.OK},
		{of(2), nil, 2, 0, api.OK},
		{nil, of(7), 7, 1, api.OK},
		{of(2)[:63], of(1), 1, 1, api.OK},
		{append(of(2), 0), of(1), 1, 1, api.OK},
		{of(2), of(3)[:63], 2, 0, api.OK},
		{of(2), append(of(3), 0), 2, 0, api.OK},
		{none, none, 0, 0, api.ErrPool},
		{nil, nil, 0, 0, api.ErrPool},
		{none, of(2), 0, 0, api.ErrPool},
		{of(1), none, 0, 0, api.ErrPool},
	}
	for i, row := range rows {
		s, slot, e := super.Choose(row.a, row.b)
		if s.Gen != row.gen || slot != row.slot || e != row.e {
			t.Errorf("row %d: Choose = %v, %d, %v; want Gen %d, %d, %v", i, s, slot, e, row.gen, row.slot, row.e)
		}
		if e != api.OK && s != (api.Super{}) {
			t.Errorf("row %d: %v beside the error %v", i, s, e)
		}
	}
}

// TestBack: P14.4.
func TestBack(t *testing.T) {
	r := rand.New(rand.NewPCG(14, 4))
	for range 20000 {
		s := some(r)
		b := put(t, s)
		if !bytes.Equal(b, plain(s)) {
			t.Fatalf("Put(%v) = % x", s, b)
		}
		if got, e := super.Take(b); got != s || e != api.OK {
			t.Fatalf("Take of Put(%v) = %v, %v", s, got, e)
		}
		b[r.IntN(len(b))] ^= 1 << r.IntN(8)
		if got, e := super.Take(b); e == api.OK && !bytes.Equal(put(t, got), b) {
			t.Fatalf("Put of Take(% x) = % x", b, put(t, got))
		}
	}
}

// twoMore: superblocks, and others with Gen 2 more: at the places where Gen's bytes are carried, and anywhere.
func twoMore(r *rand.Rand) [][2]api.Super {
	var pairs [][2]api.Super
	for shift := range 62 {
		for _, less := range []uint64{0, 1, 2, 3} {
			gen := uint64(1)<<shift - less
			if gen >= 1 && gen < 1<<62 {
				pairs = append(pairs, pair(r, gen))
			}
		}
	}
	for range 300 {
		pairs = append(pairs, pair(r, 1+r.Uint64N(1<<62-3)))
	}
	return append(pairs, pair(r, 1<<62-4), pair(r, 1<<62-3))
}

// pair: a superblock of Gen gen, and one of 2 more, which have some of their other numbers from one another.
func pair(r *rand.Rand, gen uint64) [2]api.Super {
	old, new := some(r), some(r)
	old.Gen, new.Gen = gen, gen+2
	if r.IntN(2) == 0 {
		new.Blocks, new.Dir = old.Blocks, old.Dir
	}
	if r.IntN(2) == 0 {
		new.Next = old.Next
	}
	return [2]api.Super{old, new}
}

// torn: the bytes of over laid upon those of under up to n.
func torn(under, over []byte, n int) []byte {
	b := bytes.Clone(under)
	copy(b, over[:n])
	return b
}

// TestTorn: P14.5, up to each byte.
func TestTorn(t *testing.T) {
	r := rand.New(rand.NewPCG(14, 5))
	for _, p := range twoMore(r) {
		under, over := put(t, p[0]), put(t, p[1])
		for n := range 65 {
			b := torn(under, over, n)
			takes(t, b)
			s, e := super.Take(b)
			if e != api.ErrPool && s != p[0] && s != p[1] {
				t.Fatalf("%v torn over %v at %d: %v, %v", p[1], p[0], n, s, e)
			}
			if whole := n == 64; whole && s != p[1] || n == 0 && s != p[0] {
				t.Fatalf("%v laid over %v up to %d: %v, %v", p[1], p[0], n, s, e)
			}
		}
	}
}

// inSlots: what stands in both slots, of which one has what is in turn, and the other one other bytes.
func inSlots(gen uint64, its, other []byte) ([]byte, []byte) {
	if gen%2 == 0 {
		return its, other
	}
	return other, its
}

// TestTurns: P14.6, up to each byte: over the superblock of Gen one less, and over noughts.
func TestTurns(t *testing.T) {
	r := rand.New(rand.NewPCG(14, 6))
	gens := []uint64{1, 2, 3, 254, 255, 256, 257, 1<<32 - 1, 1 << 32, 1<<62 - 3, 1<<62 - 2}
	for range 200 {
		gens = append(gens, 1+r.Uint64N(1<<62-2))
	}
	for _, gen := range gens {
		now, former, next := some(r), some(r), some(r)
		now.Gen, former.Gen, next.Gen = gen, gen-1, gen+1
		under := [][]byte{make([]byte, 64)}
		if gen > 1 {
			under = append(under, put(t, former))
		}
		for _, u := range under {
			for n := range 65 {
				a, b := inSlots(gen, put(t, now), torn(u, put(t, next), n))
				chooses(t, a, b)
				s, slot, e := super.Choose(a, b)
				right := s == now && slot == int(gen%2) && n < 64 || s == next && slot == int((gen+1)%2) && n > 0
				if e != api.OK || !right {
					t.Fatalf("Gen %d, and %d torn at %d: %v, %d, %v", gen, gen+1, n, s, slot, e)
				}
			}
		}
	}
}

// TestOwn: R3: what was answered lives apart from what was handed in, and from what is answered later.
func TestOwn(t *testing.T) {
	s := api.Super{Gen: 2, Blocks: 60, Dir: 5, Next: 3}
	first, second := put(t, s), put(t, s)
	clear(first)
	if !bytes.Equal(second, plain(s)) || !bytes.Equal(put(t, s), plain(s)) {
		t.Fatal("a form that was changed changed another one")
	}
	taken, _ := super.Take(second)
	chosen, slot, _ := super.Choose(second, nil)
	clear(second)
	if taken != s || chosen != s || slot != 0 {
		t.Fatal("bytes that were changed changed what was taken of them")
	}
}

// TestExamples: the chapter's examples.
func TestExamples(t *testing.T) {
	s := api.Super{Gen: 1, Blocks: 16, Dir: 0, Next: 1}
	b := put(t, s)
	want := []byte{
		0x63, 0x69, 0x73, 0x74,
		0, 0, 0, 0, 0, 0, 0, 1,
		0, 0, 0, 0, 0, 0, 0, 0x10,
		0, 0, 0, 0, 0, 0, 0, 0,
		0, 0, 0, 0, 0, 0, 0, 1,
		0, 0, 0, 0, 0, 0, 0, 0, 0, 0, 0, 0, 0, 0, 0, 0, 0, 0, 0, 0,
		0, 0, 0, 0, 0, 0, 0, 1,
	}
	if !bytes.Equal(b, want) {
		t.Fatalf("Put = % x", b)
	}
	if got, e := super.Take(b); got != s || e != api.OK {
		t.Fatalf("Take = %v, %v", got, e)
	}
	for _, change := range []struct{ at, to byte }{{63, 3}, {40, 1}} {
		broken := bytes.Clone(b)
		broken[change.at] = change.to
		if got, e := super.Take(broken); got != (api.Super{}) || e != api.ErrPool {
			t.Fatalf("Take with byte %d as %d = %v, %v", change.at, change.to, got, e)
		}
	}
	if got, slot, e := super.Choose(make([]byte, 64), b); got != s || slot != 1 || e != api.OK {
		t.Fatalf("Choose of noughts and it = %v, %d, %v", got, slot, e)
	}
	if got, slot, e := super.Choose(b, make([]byte, 64)); got != (api.Super{}) || slot != 0 || e != api.ErrPool {
		t.Fatalf("Choose of it and noughts = %v, %d, %v", got, slot, e)
	}
}
