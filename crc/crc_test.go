package crc_test

import (
	"bytes"
	"hash/crc32"
	"math"
	"math/bits"
	"math/rand/v2"
	"slices"
	"testing"

	"cistern/crc"
)

// plain: the sum of b as the chapter's words tell it, bit by bit.
func plain(b []byte) uint32 {
	n := uint32(0xffffffff)
	for _, x := range b {
		n ^= uint32(x)
		for range 8 {
			out := n & 1
			n >>= 1
			if out == 1 {
				n ^= 0x82f63b78
			}
		}
	}
	return n ^ 0xffffffff
}

// library: the sum of a text whose sum is sum, and b behind it, as Go's library tells it.
func library(sum uint32, b []byte) uint32 {
	return crc32.Update(sum, crc32.MakeTable(crc32.Castagnoli), b)
}

// numbers: the same pseudo-random numbers in each run.
func numbers() *rand.Rand { return rand.New(rand.NewPCG(2, 32)) }

// text: n bytes out of r.
func text(r *rand.Rand, n int) []byte {
	b := make([]byte, n)
	for i := range b {
		b[i] = byte(r.Uint32())
	}
	return b
}

// anySums: the edges, each bit alone, and some others.
func anySums() []uint32 {
	l := []uint32{0, 1, 7, 0x82f63b78, 0xe3069283, 0x7fffffff, 0xfffffffe, 0xffffffff}
	for i := range 32 {
		l = append(l, 1<<i)
	}
	r := numbers()
	for range 20 {
		l = append(l, r.Uint32())
	}
	return l
}

// up: the bytes from, from + 1 and so on, n of them.
func up(from byte, n int) []byte {
	b := make([]byte, n)
	for i := range b {
		b[i] = from + byte(i)
	}
	return b
}

// TestSum: P2.1, the chapter's examples and others that are known of CRC-32C.
func TestSum(t *testing.T) {
	down := up(0, 32)
	slices.Reverse(down)
	for _, x := range []struct {
		b    []byte
		want uint32
	}{
		{nil, 0},
		{[]byte{}, 0},
		{[]byte("123456789"), 0xe3069283},
		{[]byte("a"), 0xc1d04330},
		{make([]byte, 32), 0x8a9136aa},
		{bytes.Repeat([]byte{0xff}, 32), 0x62a8ab43},
		{up(0, 32), 0x46dd794e},
		{down, 0x113fdb5c},
	} {
		if got := crc.Sum(x.b); got != x.want {
			t.Errorf("Sum(% x) = %08x, want %08x", x.b, got, x.want)
		}
	}
}

// TestSumOfEachByte: P2.1, each byte alone, and behind another one.
func TestSumOfEachByte(t *testing.T) {
	for x := range 256 {
		for _, b := range [][]byte{{byte(x)}, {0xa5, byte(x)}, {byte(x), 0xa5}} {
			if got, want := crc.Sum(b), plain(b); got != want {
				t.Errorf("Sum(% x) = %08x, want %08x", b, got, want)
			}
		}
	}
}

// TestSumOfAnyText: P2.1, texts of each length up to some blocks', held against the chapter's words and Go's library.
func TestSumOfAnyText(t *testing.T) {
	r := numbers()
	for n := range 600 {
		b := text(r, n)
		got := crc.Sum(b)
		if want := plain(b); got != want {
			t.Errorf("Sum of %d bytes = %08x, want %08x", n, got, want)
		}
		if want := library(0, b); got != want {
			t.Errorf("Sum of %d bytes = %08x, the library's %08x", n, got, want)
		}
	}
	long := text(r, 1<<20+3)
	if got, want := crc.Sum(long), library(0, long); got != want {
		t.Errorf("Sum of a long text = %08x, want %08x", got, want)
	}
}

// TestMore: P2.1, the chapter's example, and no bytes behind.
func TestMore(t *testing.T) {
	if got := crc.More(crc.Sum([]byte("1234")), []byte("56789")); got != 0xe3069283 {
		t.Errorf("More of 1234 = %08x", got)
	}
	for _, sum := range anySums() {
		if got := crc.More(sum, nil); got != sum {
			t.Errorf("More(%08x, nil) = %08x", sum, got)
		}
		if got := crc.More(sum, []byte{}); got != sum {
			t.Errorf("More(%08x, none) = %08x", sum, got)
		}
	}
}

// TestMoreOfAnySum: P2.1, each number is some text's sum, and is gone on with.
func TestMoreOfAnySum(t *testing.T) {
	r := numbers()
	for _, sum := range anySums() {
		for _, n := range []int{1, 2, 3, 4, 5, 31, 32, 33, 252, 256} {
			b := text(r, n)
			if got, want := crc.More(sum, b), library(sum, b); got != want {
				t.Errorf("More(%08x, % x) = %08x, want %08x", sum, b, got, want)
			}
		}
	}
}

// TestOnlyReads: what is handed in stays, and what stands behind it in memory says nothing.
func TestOnlyReads(t *testing.T) {
	room := []byte("123456789abcdef")
	if got := crc.Sum(room[:9]); got != 0xe3069283 {
		t.Errorf("Sum = %08x", got)
	}
	if got := crc.More(0, room[:9:9]); got != 0xe3069283 {
		t.Errorf("More = %08x", got)
	}
	if string(room) != "123456789abcdef" {
		t.Errorf("what was handed in is changed: %q", room)
	}
}

// TestJoined: P2.2, the chapter's examples.
func TestJoined(t *testing.T) {
	for _, x := range []struct {
		a, b uint32
		n    int
		want uint32
	}{
		{crc.Sum([]byte("1234")), crc.Sum([]byte("56789")), 5, 0xe3069283},
		{7, 0, 0, 7},
		{7, 5, -3, 2},
		{0, 0, 0, 0},
		{0, 5, 3, 5},
		{0xffffffff, 0, 4, 0xb798b438}, // the sum of four noughts, 48674bc7, without the all ones at its end
	} {
		if got := crc.Joined(x.a, x.b, x.n); got != x.want {
			t.Errorf("Joined(%08x, %08x, %d) = %08x, want %08x", x.a, x.b, x.n, got, x.want)
		}
	}
}

// TestJoinedOfTexts: P2.2, two texts of many lengths.
func TestJoinedOfTexts(t *testing.T) {
	r := numbers()
	lengths := []int{0, 1, 2, 3, 4, 5, 7, 8, 9, 15, 16, 17, 31, 32, 33, 63, 64, 100, 127, 128, 240, 252, 255, 256, 257, 1000, 4095, 4096, 4097, 65535, 65536}
	for _, n := range lengths {
		for _, first := range []int{0, 1, 9, 300} {
			a, b := text(r, first), text(r, n)
			want := library(0, slices.Concat(a, b))
			if got := crc.Joined(crc.Sum(a), crc.Sum(b), n); got != want {
				t.Errorf("Joined of %d and %d bytes = %08x, want %08x", first, n, got, want)
			}
		}
	}
}

// TestJoinedAtEachCut: P2.2, one text, cut anywhere.
func TestJoinedAtEachCut(t *testing.T) {
	b := text(numbers(), 300)
	want := crc.Sum(b)
	for cut := range len(b) + 1 {
		if got := crc.Joined(crc.Sum(b[:cut]), crc.Sum(b[cut:]), len(b)-cut); got != want {
			t.Errorf("cut at %d: %08x, want %08x", cut, got, want)
		}
	}
}

// TestJoinedOfNoBytes: P2.2, a number below 0 is as 0; sums are combined then, whether or not no bytes can have them.
func TestJoinedOfNoBytes(t *testing.T) {
	for _, n := range []int{0, -1, -2, -3, -8, -256, math.MinInt32, math.MinInt + 1, math.MinInt} {
		for _, a := range anySums() {
			for _, b := range anySums() {
				if got := crc.Joined(a, b, n); got != a^b {
					t.Errorf("Joined(%08x, %08x, %d) = %08x, want %08x", a, b, n, got, a^b)
				}
			}
		}
	}
}

// times: the product of two polynomials over the numbers 0 and 1, modulo the sum's own; the highest bit is the one without x.
func times(a, b uint32) uint32 {
	var out uint32
	for ; b != 0; b <<= 1 {
		if b>>31 == 1 {
			out ^= a
		}
		a = a>>1 ^ 0x82f63b78*(a&1)
	}
	return out
}

// shift: what n noughts do to a sum, by x to the power of 8 n.
func shift(sum uint32, n uint64) uint32 {
	power := uint32(1) << 23 // x to the power of 8
	for ; n != 0; n >>= 1 {
		if n&1 == 1 {
			sum = times(sum, power)
		}
		power = times(power, power)
	}
	return sum
}

// greatNumbers: powers of two and their neighbours, the greatest int, and numbers near it.
func greatNumbers() []int {
	var l []int
	for i := range bits.UintSize - 1 {
		edge := 1 << i
		l = append(l, edge-1, edge, edge+1)
	}
	for i := range 70 {
		l = append(l, math.MaxInt-i)
	}
	return append(l, 0x5555555555555555, 0x123456789abcdef0, math.MaxInt/3*2)
}

// TestJoinedOfGreatNumbers: P2.2, for every number that n can be.
func TestJoinedOfGreatNumbers(t *testing.T) {
	for _, n := range greatNumbers() {
		for _, a := range []uint32{0, 1, 7, 1 << 31, 0xe3069283, 0xffffffff} {
			for _, b := range []uint32{0, 5, 0x8a9136aa, 0xffffffff} {
				want := shift(a, uint64(n)) ^ b
				if got := crc.Joined(a, b, n); got != want {
					t.Errorf("Joined(%08x, %08x, %d) = %08x, want %08x", a, b, n, got, want)
				}
			}
		}
	}
}

// TestJoinedGoesRound: P2.2, as many as 2^31 - 1 noughts leave each sum as it is; so great numbers are told by small ones.
func TestJoinedGoesRound(t *testing.T) {
	const round = math.MaxInt32
	for _, x := range []struct{ great, small int }{
		{round, 0},
		{round + 1, 1},
		{round + 300, 300},
		{2*round + 5, 5},
		{math.MaxInt, 1}, // 2^63 is 2 modulo 2^31 - 1
		{math.MaxInt - 1, 0},
		{math.MaxInt - 1 - round + 17, 17},
	} {
		for _, a := range anySums() {
			want := library(a, make([]byte, x.small)) ^ library(0, make([]byte, x.small)) ^ 9
			if got := crc.Joined(a, 9, x.great); got != want {
				t.Errorf("Joined(%08x, 9, %d) = %08x, want %08x", a, x.great, got, want)
			}
		}
	}
}

// turn: b with bits turned: bit i of pattern is the text's bit at + i, in each byte from the lowest on.
func turn(b []byte, at int, pattern uint32) []byte {
	out := bytes.Clone(b)
	for i := range 32 {
		if pattern>>i&1 == 1 {
			out[(at+i)/8] ^= 1 << ((at + i) % 8)
		}
	}
	return out
}

// patterns: bits that are turned, the first one always: runs of 1 to 32, the first and the last of so many, and others.
func patterns() []uint32 {
	l := []uint32{0x82f63b79, 0x1edc6f41, 0x05ec76f1, 0x55555555}
	for n := 1; n <= 32; n++ {
		l = append(l, uint32(1<<n-1), 1|1<<(n-1))
	}
	r := numbers()
	for range 20 {
		l = append(l, r.Uint32()|1)
	}
	return l
}

// TestTurned: P2.3, neighbouring bits that are turned are seen, wherever they stand.
func TestTurned(t *testing.T) {
	r := numbers()
	for _, b := range [][]byte{{0}, {0xff}, text(r, 4), make([]byte, 5), text(r, 40)} {
		sum := crc.Sum(b)
		for _, p := range patterns() {
			for at := range 8*len(b) - bits.Len32(p) + 1 {
				if got := crc.Sum(turn(b, at, p)); got == sum {
					t.Errorf("% x: bits %032b turned at %d are not seen", b, p, at)
				}
			}
		}
	}
}

// rank: how many of these numbers none of the others make, combined.
func rank(l []uint32) int {
	var tops [32]uint32 // by their highest bits
	found := 0
	for _, n := range l {
		for n != 0 {
			top := bits.Len32(n) - 1
			if tops[top] == 0 {
				tops[top] = n
				found++
				break
			}
			n ^= tops[top]
		}
	}
	return found
}

// TestTurnedInAnyWay: P2.3, all patterns at once: a turned bit changes the sum by a number that hangs on its place alone (P2.4), and of no 32 neighbours do some combined make 0.
func TestTurnedInAnyWay(t *testing.T) {
	b := text(numbers(), 256)
	sum := crc.Sum(b)
	var changes []uint32
	for at := range 8 * len(b) {
		changes = append(changes, crc.Sum(turn(b, at, 1))^sum)
	}
	for at := range len(changes) - 31 {
		if got := rank(changes[at : at+32]); got != 32 {
			t.Errorf("of the 32 bits at %d only %d are told apart", at, got)
		}
	}
}

// TestThree: P2.4, three texts of one length, combined.
func TestThree(t *testing.T) {
	r := numbers()
	for n := range 300 {
		a, b, c, all := text(r, n), text(r, n), text(r, n), make([]byte, n)
		for i := range all {
			all[i] = a[i] ^ b[i] ^ c[i]
		}
		if got, want := crc.Sum(a)^crc.Sum(b)^crc.Sum(c), crc.Sum(all); got != want {
			t.Errorf("%d bytes: the sums combined %08x, the sum of the texts combined %08x", n, got, want)
		}
	}
}

// TestMoreOfSum: P2.5, at each cut, and byte by byte.
func TestMoreOfSum(t *testing.T) {
	b := text(numbers(), 300)
	want, one := crc.Sum(b), crc.Sum(nil)
	for cut := range b {
		if got := crc.More(crc.Sum(b[:cut]), b[cut:]); got != want {
			t.Errorf("cut at %d: %08x, want %08x", cut, got, want)
		}
		one = crc.More(one, b[cut:cut+1])
	}
	if one != want {
		t.Errorf("byte by byte: %08x, want %08x", one, want)
	}
}

// TestBrackets: P2.5, of three texts it says nothing which two are joined first; of great ones, too, whose sums may be any.
func TestBrackets(t *testing.T) {
	lengths := []int{0, 1, 3, 8, 255, 256, 4096, math.MaxInt32, math.MaxInt32 + 1, 1 << 40, math.MaxInt / 2, math.MaxInt/2 - 1}
	r := numbers()
	for _, n := range lengths {
		for _, m := range lengths {
			a, b, c := r.Uint32(), r.Uint32(), r.Uint32()
			left := crc.Joined(crc.Joined(a, b, n), c, m)
			right := crc.Joined(a, crc.Joined(b, c, m), n+m)
			if left != right {
				t.Errorf("%d and %d bytes: %08x and %08x", n, m, left, right)
			}
		}
	}
	a, b, c := text(r, 20), text(r, 30), text(r, 50)
	want := crc.Sum(slices.Concat(a, b, c))
	if got := crc.Joined(crc.Joined(crc.Sum(a), crc.Sum(b), 30), crc.Sum(c), 50); got != want {
		t.Errorf("from the left: %08x, want %08x", got, want)
	}
	if got := crc.Joined(crc.Sum(a), crc.Joined(crc.Sum(b), crc.Sum(c), 50), 80); got != want {
		t.Errorf("from the right: %08x, want %08x", got, want)
	}
}
