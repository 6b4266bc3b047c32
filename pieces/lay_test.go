package pieces_test

import (
	"bytes"
	"math"
	"testing"

	"cistern/api"
	"cistern/pieces"
)

// lengths: of blocks and of data: none, a few bytes, up to the ends of a block, and beyond.
var lengths = []int{0, 1, 2, 3, 5, 99, 100, 101, 127, 128, 200, 254, 255, 256, 257, 258, 300, 511, 512, 600}

// TestPiecesAtEdges: P18.4, each From and To as far as an int goes, blocks and data of a few lengths.
func TestPiecesAtEdges(t *testing.T) {
	r := numbers(6)
	for _, from := range ends() {
		for _, to := range ends() {
			for _, n := range []int{0, 1, 100, 255, 256, 300} {
				p := api.Piece{Block: r.Uint64(), From: from, To: to, At: []int{0, 1, 50}[r.IntN(3)]}
				b, data := noise(r, n), noise(r, lengths[r.IntN(len(lengths))])
				lifts(t, p, b, plainLift(p, b))
				lays(t, p, b, data, plainLay(p, b, data))
			}
		}
	}
}

// TestAtAtEdges: P18.4, each At as far as an int goes.
func TestAtAtEdges(t *testing.T) {
	r := numbers(7)
	for _, at := range ends() {
		for _, x := range [][2]int{{0, 256}, {0, 0}, {256, 256}, {0, 1}, {255, 256}, {10, 20}, {20, 10}, {-1, 5}, {250, 257}} {
			for _, n := range lengths {
				p := api.Piece{Block: 1, From: x[0], To: x[1], At: at}
				b, data := noise(r, 256), noise(r, n)
				lifts(t, p, b, plainLift(p, b))
				lays(t, p, b, data, plainLay(p, b, data))
			}
		}
	}
}

// TestEachLength: P18.4, blocks shorter than From, than To, than a block, longer than that, and data shorter than At, than At and the piece together, longer.
func TestEachLength(t *testing.T) {
	r := numbers(8)
	for _, x := range [][3]int{{0, 256, 0}, {0, 256, 256}, {2, 4, 1}, {100, 200, 30}, {100, 100, 30}, {0, 0, 0}, {256, 256, 0}, {255, 256, 599}, {1, 255, 300}} {
		p := api.Piece{From: x[0], To: x[1], At: x[2]}
		for _, n := range lengths {
			b := noise(r, n)
			lifts(t, p, b, plainLift(p, b))
			for _, m := range lengths {
				data := noise(r, m)
				lays(t, p, b, data, plainLay(p, b, data))
			}
		}
	}
}

// TestLiftOfEachBlock: P18.4, blocks of each length up to some more than 256 bytes.
func TestLiftOfEachBlock(t *testing.T) {
	b := noise(numbers(9), 600)
	for n := range 601 {
		for _, p := range []api.Piece{{From: 0, To: 256}, {From: 100, To: 200}, {From: 255, To: 256}, {From: 256, To: 256}, {From: 7, To: 7}} {
			lifts(t, p, b[:n], plainLift(p, b[:n]))
			lays(t, p, b[:n], b, plainLay(p, b[:n], b))
			lays(t, p, b, b[:n], plainLay(p, b, b[:n]))
		}
	}
}

// TestLiftByHand: P18.4.
func TestLiftByHand(t *testing.T) {
	for _, x := range []struct {
		from, to, at int
		block, want  string
	}{
		{0, 3, 0, "abcdef", "abc"}, {2, 4, 0, "abcdef", "cd"}, {2, 4, 9, "abcdef", "cd"}, {2, 2, 0, "abcdef", ""},
		{2, 6, 0, "abcdef", "cdef"}, {2, 7, 0, "abcdef", "cdef"}, {2, 256, 0, "abcdef", "cdef"}, {6, 256, 0, "abcdef", ""}, {7, 256, 0, "abcdef", ""},
		{5, 6, 0, "abcdef", "f"}, {0, 256, 0, "", ""}, {0, 0, 0, "", ""}, {256, 256, 0, "abcdef", ""},
		{-1, 3, 0, "abcdef", ""}, {3, 2, 0, "abcdef", ""}, {0, 257, 0, "abcdef", ""}, {0, 3, -1, "abcdef", ""}, {257, 257, 0, "abcdef", ""}, {-2, -1, 0, "abcdef", ""},
	} {
		lifts(t, api.Piece{Block: 3, From: x.from, To: x.to, At: x.at}, []byte(x.block), []byte(x.want))
	}
}

// TestLayByHand: P18.4.
func TestLayByHand(t *testing.T) {
	for _, x := range []struct {
		from, to, at      int
		block, data, want string
	}{
		{2, 4, 0, "abcdef", "xyz", "abxyef"}, {2, 4, 1, "abcdef", "xyz", "abyzef"}, {2, 4, 2, "abcdef", "xyz", "abzdef"}, {2, 4, 3, "abcdef", "xyz", "abcdef"}, {2, 4, 4, "abcdef", "xyz", "abcdef"},
		{2, 2, 0, "abcdef", "xyz", "abcdef"}, {2, 9, 0, "abcdef", "xyz", "abxyzf"}, {5, 9, 0, "abcdef", "xyz", "abcdexyz"}, {8, 10, 0, "abcdef", "xyz", "abcdef\x00\x00xy"},
		{0, 256, 0, "", "xyz", "xyz"}, {0, 256, 0, "abcdef", "", "abcdef"}, {0, 256, 0, "", "", ""}, {256, 256, 0, "abcdef", "xyz", "abcdef"},
		{-1, 3, 0, "abcdef", "xyz", "abcdef"}, {3, 2, 0, "abcdef", "xyz", "abcdef"}, {0, 257, 0, "abcdef", "xyz", "abcdef"}, {0, 3, -1, "abcdef", "xyz", "abcdef"},
	} {
		want := make([]byte, block)
		copy(want, x.want)
		lays(t, api.Piece{Block: 3, From: x.from, To: x.to, At: x.at}, []byte(x.block), []byte(x.data), want)
	}
}

// TestPiecesThatMayNotBe: P18.4, none is lifted; the block alone is laid, cut off or with noughts behind.
func TestPiecesThatMayNotBe(t *testing.T) {
	r := numbers(10)
	data := noise(r, 700)
	for _, p := range []api.Piece{
		{From: -1, To: 10}, {From: -1, To: 0}, {From: -1, To: -1}, {From: math.MinInt, To: 10}, {From: math.MinInt, To: math.MaxInt},
		{From: 11, To: 10}, {From: 256, To: 255}, {From: 1, To: 0}, {From: 1, To: -1}, {From: math.MaxInt, To: math.MinInt},
		{From: 0, To: 257}, {From: 256, To: 257}, {From: 257, To: 257}, {From: 10, To: 1 << 32}, {From: 0, To: math.MaxInt}, {From: math.MaxInt, To: math.MaxInt},
		{From: 0, To: 10, At: -1}, {From: 0, To: 0, At: -1}, {From: 0, To: 256, At: math.MinInt},
	} {
		for _, n := range lengths {
			b := noise(r, n)
			want := make([]byte, block)
			copy(want, b)
			lifts(t, p, b, nil)
			lays(t, p, b, data, want)
			lays(t, p, b, nil, want)
		}
	}
}

// TestAnyBlock: P18.4, what the number of the block is tells nothing.
func TestAnyBlock(t *testing.T) {
	b := []byte("abcdef")
	want := append([]byte("abyzef"), make([]byte, 250)...)
	for _, k := range edges() {
		p := api.Piece{Block: k, From: 2, To: 4, At: 1}
		lifts(t, p, b, []byte("cd"))
		lays(t, p, b, []byte("xyz"), want)
	}
}

// TestLaidIsLifted: P18.8, in each piece of a few, with all other bytes of the block as they were.
func TestLaidIsLifted(t *testing.T) {
	r := numbers(11)
	for from := range block + 1 {
		for _, to := range []int{from, from + 1, from + r.IntN(block-from+1), block} {
			if to > block {
				continue
			}
			p := api.Piece{Block: 9, From: from, To: to, At: r.IntN(300)}
			b, data := noise(r, block), noise(r, p.At+to-from+r.IntN(3))
			laid := pieces.Lay(p, b, data)
			lifts(t, p, laid, data[p.At:p.At+to-from])
			if !bytes.Equal(laid[:from], b[:from]) || !bytes.Equal(laid[to:], b[to:]) {
				t.Errorf("Lay(%v): other bytes of the block are others now", p)
			}
		}
	}
}

// TestRangesLaidAndLifted: P18.8, ranges, piece by piece, in a row of bytes.
func TestRangesLaidAndLifted(t *testing.T) {
	r := numbers(12)
	for range 300 {
		off, n := r.IntN(2*block), r.IntN(5*block)
		all, data := noise(r, 8*block), noise(r, n)
		want := bytes.Clone(all)
		copy(want[off:], data)
		var got []byte
		for _, p := range pieces.Cut(uint64(off), uint64(n)) {
			k := int(p.Block) * block
			copy(all[k:k+block], pieces.Lay(p, all[k:k+block], data))
			got = append(got, pieces.Lift(p, all[k:k+block])...)
		}
		if !bytes.Equal(all, want) || !bytes.Equal(got, data) {
			t.Fatalf("%d bytes at %d are not laid, or lifted, as they are", n, off)
		}
	}
}

// TestNothingIsShared: what is handed in stays, its room, too, and shares no bytes with what is told.
func TestNothingIsShared(t *testing.T) {
	r := numbers(13)
	for _, n := range lengths {
		for _, m := range lengths {
			for _, p := range []api.Piece{{To: 256}, {From: 2, To: 4, At: 1}, {From: 100, To: 256, At: 99}, {From: 3, To: 3}, {From: 5, To: 4}, {To: 257}} {
				b, data := rooms(noise(r, n)), rooms(noise(r, m))
				b1, data1 := bytes.Clone(b[:cap(b)]), bytes.Clone(data[:cap(data)])
				lifted, laid := pieces.Lift(p, b), pieces.Lay(p, b, data)
				lifted1, laid1 := bytes.Clone(lifted), bytes.Clone(laid)
				overwrite(lifted, laid)
				if !bytes.Equal(b[:cap(b)], b1) || !bytes.Equal(data[:cap(data)], data1) {
					t.Fatalf("%v: what was handed in is another now", p)
				}
				lifted, laid = pieces.Lift(p, b), pieces.Lay(p, b, data)
				overwrite(b, data)
				if !bytes.Equal(lifted, lifted1) || !bytes.Equal(laid, laid1) {
					t.Fatalf("%v: what was told is another now", p)
				}
			}
		}
	}
}

// overwrite: other bytes everywhere, the room behind the lists, too.
func overwrite(l ...[]byte) {
	for _, b := range l {
		b = b[:cap(b)]
		for i := range b {
			b[i] ^= 0x5a
		}
	}
}

// TestOneTextTwice: P18.4, a block that is the data, too.
func TestOneTextTwice(t *testing.T) {
	b := noise(numbers(14), 300)
	was := bytes.Clone(b)
	p := api.Piece{From: 10, To: 200, At: 30}
	lays(t, p, b, b, plainLay(p, was, was))
	if !bytes.Equal(b, was) {
		t.Error("it is another now")
	}
}

// TestNilOrEmpty: R4, nil and no bytes are one.
func TestNilOrEmpty(t *testing.T) {
	p := api.Piece{To: 256}
	noughts := make([]byte, block)
	for _, none := range [][]byte{nil, {}, make([]byte, 0, 600)} {
		lifts(t, p, none, nil)
		lays(t, p, none, none, noughts)
		lays(t, p, none, []byte("x"), append([]byte("x"), noughts[1:]...))
		lays(t, p, []byte("x"), none, append([]byte("x"), noughts[1:]...))
	}
}
