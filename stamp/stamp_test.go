package stamp_test

import (
	"bytes"
	"encoding/binary"
	"hash/crc32"
	"math"
	"math/bits"
	"math/rand/v2"
	"slices"
	"testing"

	"cistern/api"
	"cistern/stamp"
)

// library: the sum of b, as Go's library tells it.
func library(b []byte) uint32 { return crc32.Checksum(b, crc32.MakeTable(crc32.Castagnoli)) }

// summed: a block's first 252 bytes, and their sum.
func summed(ahead []byte) []byte {
	return binary.BigEndian.AppendUint32(bytes.Clone(ahead), library(ahead))
}

// plain: a stamped block as the chapter's words tell it; its place and its kind may be any numbers of 8 and 4 bytes.
func plain(payload []byte, place uint64, kind uint32) []byte {
	b := append(bytes.Clone(payload), make([]byte, 240-len(payload))...)
	b = binary.BigEndian.AppendUint64(b, place)
	b = binary.BigEndian.AppendUint32(b, kind)
	return summed(b)
}

// plainOpen: what Open should tell.
func plainOpen(b []byte, at int, kind byte) ([]byte, api.Errno) {
	if len(b) < 256 {
		return nil, api.ErrShort
	}
	if len(b) > 256 {
		return nil, api.ErrLong
	}
	if binary.BigEndian.Uint32(b[252:]) != library(b[:252]) {
		return nil, api.ErrSum
	}
	if binary.BigEndian.Uint64(b[240:]) != uint64(int64(at)) {
		return nil, api.ErrPlace
	}
	if binary.BigEndian.Uint32(b[248:]) != uint32(kind) {
		return nil, api.ErrKind
	}
	return bytes.Clone(b[:240]), api.OK
}

// sealed: what Seal answers, where it has to answer a block.
func sealed(t *testing.T, payload []byte, at int, kind byte) []byte {
	t.Helper()
	b, e := stamp.Seal(payload, at, kind)
	if e != api.OK || len(b) != 256 {
		t.Fatalf("Seal of %d bytes at %d as %d = %d bytes, %d", len(payload), at, kind, len(b), e)
	}
	return b
}

// opens: that a block is opened so.
func opens(t *testing.T, b []byte, at int, kind byte, want []byte) {
	t.Helper()
	if got, e := stamp.Open(b, at, kind); e != api.OK || !bytes.Equal(got, want) {
		t.Errorf("Open at %d as %d = % x, %d, want % x", at, kind, got, e, want)
	}
}

// refused: that a block is not opened, by that error, and that nothing stands beside it.
func refused(t *testing.T, b []byte, at int, kind byte, want api.Errno) {
	t.Helper()
	if got, e := stamp.Open(b, at, kind); e != want || len(got) != 0 {
		t.Errorf("Open of %d bytes at %d as %d = % x, %d, want none, %d", len(b), at, kind, got, e, want)
	}
}

// alike: that Open tells what it should.
func alike(t *testing.T, b []byte, at int, kind byte) {
	t.Helper()
	got, e := stamp.Open(b, at, kind)
	want, f := plainOpen(b, at, kind)
	if e != f || !bytes.Equal(got, want) {
		t.Errorf("Open of % x at %d as %d = % x, %d, want % x, %d", b, at, kind, got, e, want, f)
	}
}

// numbers: the same pseudo-random numbers in each run.
func numbers(seed uint64) *rand.Rand { return rand.New(rand.NewPCG(4, seed)) }

// noise: n bytes out of r.
func noise(r *rand.Rand, n int) []byte {
	b := make([]byte, n)
	for i := range b {
		b[i] = byte(r.Uint32())
	}
	return b
}

// filled: a payload, and noughts up to 240 bytes.
func filled(payload []byte) []byte {
	b := make([]byte, 240)
	copy(b, payload)
	return b
}

// anyPlaces: the edges, each bit alone, and their neighbours; above 0 and below.
func anyPlaces() []int {
	l := []int{0, 1, 2, 5, 6, 255, 256, 1023, 1024, math.MaxInt, math.MaxInt - 1, math.MinInt, math.MinInt + 1}
	for i := range 63 {
		l = append(l, 1<<i, 1<<i-1, 1<<i+1, -1<<i, -1<<i-1, -1<<i+1)
	}
	l = append(l, 0x0102030405060708, -0x0102030405060708)
	slices.Sort(l)
	return slices.Compact(l)
}

// anyPayloads: of the lengths that the chapter names, and others.
func anyPayloads() [][]byte {
	r := numbers(1)
	l := [][]byte{nil, {}, {0}, {1}, {255}, []byte("ab"), make([]byte, 240), bytes.Repeat([]byte{255}, 240)}
	for _, n := range []int{1, 2, 63, 64, 65, 128, 238, 239, 240} {
		l = append(l, noise(r, n))
	}
	return l
}

// TestExamples: the chapter's.
func TestExamples(t *testing.T) {
	if b, e := stamp.Seal(make([]byte, 241), 5, 1); e != api.ErrLong || len(b) != 0 {
		t.Errorf("Seal of 241 bytes = % x, %d", b, e)
	}
	b := sealed(t, []byte("ab"), 5, 1)
	if got := []byte{b[0], b[1], b[2], b[247], b[251]}; !bytes.Equal(got, []byte{'a', 'b', 0, 5, 1}) {
		t.Errorf("the bytes 0, 1, 2, 247, 251 = % x", got)
	}
	opens(t, b, 5, 1, append([]byte("ab"), make([]byte, 238)...))
	refused(t, b, 6, 1, api.ErrPlace)
	refused(t, b, 5, 2, api.ErrKind)
	refused(t, b, 6, 2, api.ErrPlace)
	refused(t, make([]byte, 255), 0, 0, api.ErrShort)
	refused(t, make([]byte, 257), 0, 0, api.ErrLong)
	refused(t, make([]byte, 256), 0, 0, api.ErrSum)
}

// TestSealedByHand: P4.1, byte by byte, with its sum written down.
func TestSealedByHand(t *testing.T) {
	want := append([]byte("cistern"), make([]byte, 233)...)
	want = append(want, 0xff, 0xff, 0xff, 0xff, 0xff, 0xff, 0xfe, 0xfd) // 2^64 - 259
	want = append(want, 0, 0, 0, 4)
	want = append(want, 0x09, 0x70, 0x90, 0x50)
	if got := sealed(t, []byte("cistern"), -259, 4); !bytes.Equal(got, want) {
		t.Errorf("Seal = % x, want % x", got, want)
	}
	opens(t, want, -259, 4, filled([]byte("cistern")))
}

// TestSealOfEachLength: P4.1, payloads of 0 to 240 bytes, opened again.
func TestSealOfEachLength(t *testing.T) {
	r := numbers(2)
	for n := range 241 {
		for _, payload := range [][]byte{noise(r, n), make([]byte, n), bytes.Repeat([]byte{0xff}, n)} {
			at, kind := int(r.Uint64()), byte(n)
			b := sealed(t, payload, at, kind)
			if want := plain(payload, uint64(int64(at)), uint32(kind)); !bytes.Equal(b, want) {
				t.Errorf("Seal of %d bytes = % x, want % x", n, b, want)
			}
			opens(t, b, at, kind, filled(payload))
		}
	}
}

// TestSealOfTooMany: P4.1, whatever place and kind are.
func TestSealOfTooMany(t *testing.T) {
	for _, n := range []int{241, 242, 243, 248, 252, 255, 256, 257, 480, 481, 496, 512, 4096, 1 << 20} {
		for _, at := range []int{0, 5, -1, math.MaxInt, math.MinInt} {
			for _, kind := range []byte{0, 1, 255} {
				if b, e := stamp.Seal(make([]byte, n), at, kind); e != api.ErrLong || len(b) != 0 {
					t.Errorf("Seal of %d bytes at %d as %d = % x, %d", n, at, kind, b, e)
				}
			}
		}
	}
}

// TestSealOfNone: P4.1, no payload, an empty one and noughts are one.
func TestSealOfNone(t *testing.T) {
	for _, at := range []int{0, 7, -7} {
		want := plain(nil, uint64(int64(at)), 2)
		for _, payload := range [][]byte{nil, {}, make([]byte, 0, 300), {0}, make([]byte, 239), make([]byte, 240)} {
			if got := sealed(t, payload, at, 2); !bytes.Equal(got, want) {
				t.Errorf("Seal of %d noughts = % x, want % x", len(payload), got, want)
			}
		}
	}
}

// TestEachPlace: P4.1 to P4.3, each place in 8 bytes, opened there alone.
func TestEachPlace(t *testing.T) {
	places := anyPlaces()
	for _, at := range places {
		b := sealed(t, []byte("here"), at, 3)
		if want := plain([]byte("here"), uint64(int64(at)), 3); !bytes.Equal(b, want) {
			t.Errorf("Seal at %d = % x, want % x", at, b, want)
		}
		for _, other := range places {
			if other == at {
				opens(t, b, other, 3, filled([]byte("here")))
			} else if got, e := stamp.Open(b, other, 3); e != api.ErrPlace || len(got) != 0 {
				t.Errorf("sealed at %d, Open at %d = % x, %d", at, other, got, e)
			}
		}
	}
}

// TestPlacesBelowNone: P4.1, a place below 0 is told by that of 2^64 and it.
func TestPlacesBelowNone(t *testing.T) {
	for _, x := range []struct {
		at   int
		want []byte
	}{
		{0, []byte{0, 0, 0, 0, 0, 0, 0, 0}},
		{-1, []byte{255, 255, 255, 255, 255, 255, 255, 255}},
		{-2, []byte{255, 255, 255, 255, 255, 255, 255, 254}},
		{-256, []byte{255, 255, 255, 255, 255, 255, 255, 0}},
		{math.MaxInt64, []byte{127, 255, 255, 255, 255, 255, 255, 255}},
		{math.MinInt64, []byte{128, 0, 0, 0, 0, 0, 0, 0}},
		{0x0102030405060708, []byte{1, 2, 3, 4, 5, 6, 7, 8}},
	} {
		if got := sealed(t, nil, x.at, 1)[240:248]; !bytes.Equal(got, x.want) {
			t.Errorf("the place %d = % x, want % x", x.at, got, x.want)
		}
	}
}

// TestEachKind: P4.1 to P4.3, each kind in 4 bytes, opened as that one alone.
func TestEachKind(t *testing.T) {
	payload := noise(numbers(3), 240)
	for kind := range 256 {
		b := sealed(t, payload, 9, byte(kind))
		if want := plain(payload, 9, uint32(kind)); !bytes.Equal(b, want) {
			t.Errorf("Seal as %d = % x, want % x", kind, b, want)
		}
		for other := range 256 {
			if other == kind {
				opens(t, b, 9, byte(other), payload)
			} else {
				refused(t, b, 9, byte(other), api.ErrKind)
			}
		}
	}
}

// TestOpenOfOtherLengths: P4.2, blocks that are cut, or go on, whatever they have.
func TestOpenOfOtherLengths(t *testing.T) {
	b := plain([]byte("ab"), 5, 1)
	for n := range 600 {
		want := api.ErrShort
		if n > 256 {
			want = api.ErrLong
		}
		if n == 256 {
			continue
		}
		for _, long := range [][]byte{make([]byte, 600), slices.Concat(b, b, b), slices.Concat(b, make([]byte, 344)), bytes.Repeat([]byte{255}, 600)} {
			refused(t, long[:n], 5, 1, want)
			refused(t, long[:n:n], 0, 0, want)
			refused(t, long[len(long)-n:], 6, 2, want)
		}
	}
	refused(t, nil, 0, 0, api.ErrShort)
	refused(t, nil, -1, 255, api.ErrShort)
	refused(t, make([]byte, 1<<20), 0, 0, api.ErrLong)
}

// TestOpenIsByTheLength: P4.2, what stands behind a block in memory says nothing.
func TestOpenIsByTheLength(t *testing.T) {
	b := plain([]byte("ab"), 5, 1)
	room := slices.Concat(b, []byte("behind"))
	opens(t, room[:256], 5, 1, filled([]byte("ab")))
	refused(t, room[:255], 5, 1, api.ErrShort)
	refused(t, room[:257], 5, 1, api.ErrLong)
}

// TestErrorsInOrder: P4.2, each of the errors alone, and several at once: the first one is told.
func TestErrorsInOrder(t *testing.T) {
	for wrong := range 32 {
		place, kind, want := uint64(5), uint32(1), api.OK
		if wrong&1 != 0 {
			kind, want = 2, api.ErrKind
		}
		if wrong&2 != 0 {
			place, want = 6, api.ErrPlace
		}
		b := plain([]byte("ab"), place, kind)
		if wrong&4 != 0 {
			b[252]++
			want = api.ErrSum
		}
		if wrong&8 != 0 {
			b, want = append(b, 0), api.ErrLong
		} else if wrong&16 != 0 {
			b, want = b[:255], api.ErrShort
		}
		if want == api.OK {
			opens(t, b, 5, 1, filled([]byte("ab")))
		} else {
			refused(t, b, 5, 1, want)
		}
	}
}

// TestAllOfTheKind: P4.2, each of its four bytes counts, and each of their bits.
func TestAllOfTheKind(t *testing.T) {
	for _, kind := range []byte{0, 1, 4, 128, 255} {
		for i := range 32 {
			turned := uint32(kind) ^ 1<<i
			b := plain([]byte("ab"), 5, turned)
			refused(t, b, 5, kind, api.ErrKind)
			refused(t, b, 6, kind, api.ErrPlace)
			if turned < 256 {
				opens(t, b, 5, byte(turned), filled([]byte("ab")))
			}
		}
	}
	for _, kind := range []uint32{0x100, 0x101, 0x10001, 0x1000001, 0x01000000, 0x01010101, 0xffffff01, 0xffffffff, 0xffffff00} {
		for is := range 256 {
			refused(t, plain(nil, 5, kind), 5, byte(is), api.ErrKind)
		}
	}
}

// TestAllOfThePlace: P4.2, each bit of its eight bytes counts.
func TestAllOfThePlace(t *testing.T) {
	for _, at := range []int{0, 5, 1023, -1, math.MaxInt, math.MinInt} {
		for i := range 64 {
			turned := uint64(int64(at)) ^ 1<<i
			b := plain([]byte("ab"), turned, 1)
			refused(t, b, at, 1, api.ErrPlace)
			refused(t, b, at, 2, api.ErrPlace)
			opens(t, b, int(int64(turned)), 1, filled([]byte("ab")))
		}
	}
}

// TestAllOfTheSum: P4.2, each bit of its four bytes counts; and it is that of all ahead of it, the highest byte first.
func TestAllOfTheSum(t *testing.T) {
	b := plain(noise(numbers(4), 240), 5, 1)
	for i := range 32 {
		turned := bytes.Clone(b)
		turned[252+i/8] ^= 1 << (i % 8)
		refused(t, turned, 5, 1, api.ErrSum)
		refused(t, turned, 6, 1, api.ErrSum)
		refused(t, turned, 5, 2, api.ErrSum)
	}
	for _, other := range []uint32{0, 0xffffffff, library(b[:240]), library(b[:248]), library(b[:251]), library(b), library(b[1:252]), ^library(b[:252]), bits.ReverseBytes32(library(b[:252])), crc32.ChecksumIEEE(b[:252])} {
		refused(t, binary.BigEndian.AppendUint32(bytes.Clone(b[:252]), other), 5, 1, api.ErrSum)
	}
}

// TestEachBit: P4.3, each bit of a block, turned alone.
func TestEachBit(t *testing.T) {
	for _, b := range [][]byte{plain([]byte("ab"), 5, 1), plain(noise(numbers(5), 240), 5, 1)} {
		for i := range 256 * 8 {
			turned := bytes.Clone(b)
			turned[i/8] ^= 1 << (i % 8)
			refused(t, turned, 5, 1, api.ErrSum)
		}
	}
}

// turn: b with bits turned: bit i of pattern is the block's bit at + i, in each byte from the lowest on.
func turn(b []byte, at int, pattern uint32) []byte {
	out := bytes.Clone(b)
	for i := range 32 {
		if pattern>>i&1 == 1 {
			out[(at+i)/8] ^= 1 << ((at + i) % 8)
		}
	}
	return out
}

// patterns: bits that are turned, the first one always: runs of 1 to 32, the first and the last of so many, and others.
func patterns() []uint32 {
	l := []uint32{0x82f63b79, 0x1edc6f41, 0x05ec76f1, 0x55555555}
	for n := 1; n <= 32; n++ {
		l = append(l, uint32(1<<n-1), 1|1<<(n-1))
	}
	r := numbers(6)
	for range 20 {
		l = append(l, r.Uint32()|1)
	}
	return l
}

// TestTurned: P4.3, up to 32 neighbouring bits, wherever they stand.
func TestTurned(t *testing.T) {
	for _, b := range [][]byte{plain(noise(numbers(7), 240), 5, 1), plain(nil, 0, 0)} {
		at, kind := int(binary.BigEndian.Uint64(b[240:])), b[251]
		for _, p := range patterns() {
			for from := range 8*256 - bits.Len32(p) + 1 {
				turned := turn(b, from, p)
				if got, e := stamp.Open(turned, at, kind); e == api.OK || len(got) != 0 {
					t.Errorf("bits %032b turned at %d: % x, %d", p, from, got, e)
				}
				alike(t, turned, at, kind)
			}
		}
	}
}

// TestTurnedAtTheSeam: P4.3, 32 neighbouring bits, the first one of the kind, all others of the sum, that make a right block of another kind; it is none of the kind that it was.
func TestTurnedAtTheSeam(t *testing.T) {
	b := sealed(t, []byte("ab"), 5, 1)
	turned := bytes.Clone(b)
	for i, x := range []byte{0x80, 0x82, 0xf6, 0x3b, 0x78} {
		turned[251+i] ^= x
	}
	refused(t, turned, 5, 1, api.ErrKind)
	refused(t, turned, 6, 1, api.ErrPlace)
	opens(t, turned, 5, 129, filled([]byte("ab")))
}

// TestSealedAgain: P4.4, of right blocks of any bytes, whoever sealed them.
func TestSealedAgain(t *testing.T) {
	r := numbers(8)
	for range 2000 {
		at, kind := int(r.Uint64()), byte(r.Uint32())
		b := plain(noise(r, 240), uint64(int64(at)), uint32(kind))
		payload, e := stamp.Open(b, at, kind)
		if e != api.OK || len(payload) != 240 {
			t.Fatalf("Open = %d bytes, %d", len(payload), e)
		}
		if again := sealed(t, payload, at, kind); !bytes.Equal(again, b) {
			t.Errorf("sealed again: % x, want % x", again, b)
		}
	}
	for _, payload := range anyPayloads() {
		b := sealed(t, payload, 12, 2)
		room, _ := stamp.Open(b, 12, 2)
		if again := sealed(t, room, 12, 2); !bytes.Equal(again, b) {
			t.Errorf("sealed again: % x, want % x", again, b)
		}
	}
}

// TestSealOnlyReads: what is handed in stays, what stands behind it in memory says nothing, and what is answered lives apart.
func TestSealOnlyReads(t *testing.T) {
	for _, payload := range anyPayloads() {
		room := append(bytes.Clone(payload), bytes.Repeat([]byte{0xee}, 300)...)
		was := bytes.Clone(room)
		handed := room[:len(payload)]
		b := sealed(t, handed, 5, 1)
		want := plain(payload, 5, 1)
		if !bytes.Equal(room, was) || !bytes.Equal(b, want) {
			t.Errorf("Seal of %d bytes of a greater room: handed in % x, answered % x", len(payload), room, b)
		}
		clear(room)
		if !bytes.Equal(b, want) {
			t.Errorf("%d bytes, changed behind Seal, change what it answered", len(payload))
		}
		clear(b)
		_ = append(b, 1, 2, 3)
		if again := sealed(t, payload, 5, 1); !bytes.Equal(again, want) {
			t.Errorf("Seal again = % x, want % x", again, want)
		}
	}
}

// TestOpenOnlyReads: likewise.
func TestOpenOnlyReads(t *testing.T) {
	for _, payload := range anyPayloads() {
		room := append(plain(payload, 5, 1), bytes.Repeat([]byte{0xee}, 300)...)
		was := bytes.Clone(room)
		got, _ := stamp.Open(room[:256], 5, 1)
		for _, x := range []struct {
			n, at int
			kind  byte
		}{{255, 5, 1}, {257, 5, 1}, {256, 6, 1}, {256, 5, 2}} {
			stamp.Open(room[:x.n], x.at, x.kind)
		}
		if !bytes.Equal(room, was) {
			t.Errorf("Open changes what is handed in: % x, was % x", room, was)
		}
		clear(room)
		if !bytes.Equal(got, filled(payload)) {
			t.Errorf("a block, changed behind Open, changes what it answered: % x", got)
		}
		copy(room, was)
		_ = append(got, 1, 2, 3)
		clear(got)
		if !bytes.Equal(room, was) {
			t.Errorf("what Open answered, changed, changes the block: % x", room)
		}
		opens(t, room[:256], 5, 1, filled(payload))
	}
}

// TestAnswersEndWhereTheirRoomDoes: so that nothing of the program's stands behind them.
func TestAnswersEndWhereTheirRoomDoes(t *testing.T) {
	for _, payload := range anyPayloads() {
		b := sealed(t, payload, 5, 1)
		got, _ := stamp.Open(b, 5, 1)
		if cap(b) != 256 || len(got) != 240 || cap(got) != 240 {
			t.Errorf("room for %d and %d bytes", cap(b), cap(got))
		}
	}
}

// TestAnyBytes: blocks of noise, and right ones of which some bytes are others, at places and as kinds near their own.
func TestAnyBytes(t *testing.T) {
	r := numbers(9)
	for range 20000 {
		place, kind := uint64(r.IntN(3)-1), uint32(r.IntN(3))
		ahead := plain(noise(r, 240), place, kind)[:252]
		for range r.IntN(3) {
			ahead[240+r.IntN(12)] ^= 1 << r.IntN(8)
		}
		b := summed(ahead)
		if r.IntN(4) == 0 {
			b[r.IntN(256)] = byte(r.Uint32())
		}
		if r.IntN(8) == 0 {
			b = append(b, b...)[:254+r.IntN(5)]
		}
		alike(t, b, r.IntN(3)-1, byte(r.IntN(3)))
	}
	for range 2000 {
		alike(t, noise(r, r.IntN(520)), int(r.Uint64()), byte(r.Uint32()))
	}
}
