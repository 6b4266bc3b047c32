package node_test

import (
	"bytes"
	"encoding/binary"
	"math"
	"math/rand/v2"
	"slices"
	"testing"

	"cistern/api"
	"cistern/node"
)

const greatest = math.MaxUint64

// edges: numbers at which something may wrap, or be taken for another kind of number.
var edges = []uint64{0, 1, 2, 7, 8, 255, 256, 1<<31 - 1, 1 << 31, 1<<32 - 1, 1 << 32, 1<<63 - 1, 1 << 63, 1<<63 + 1, greatest - 1, greatest}

// numbers: the same pseudo-random numbers in each run.
func numbers(seed uint64) *rand.Rand { return rand.New(rand.NewPCG(9, seed)) }

// leaf, inner: nodes with these keys and values.
func leaf(keys, vals []uint64) api.Node { return api.Node{Leaf: true, Keys: keys, Vals: vals} }

func inner(keys, vals []uint64) api.Node { return api.Node{Keys: keys, Vals: vals} }

// both: the one and the other.
func both(keys, vals []uint64) []api.Node { return []api.Node{leaf(keys, vals), inner(keys, vals)} }

// nones: lists without numbers; behind some of them there is room.
func nones() [][]uint64 {
	l := []uint64{1, 2}
	return [][]uint64{nil, {}, l[:0], l[1:1], l[2:]}
}

// list: numbers from the first one on, each by step above the one ahead.
func list(n int, first, step uint64) []uint64 {
	var l []uint64
	for i := range uint64(n) {
		l = append(l, first+i*step)
	}
	return l
}

// right: a node of so many keys that may be, with edges often among its keys and values.
func right(g *rand.Rand, keys int) api.Node {
	n := api.Node{Leaf: g.IntN(2) == 0}
	for len(n.Keys) < keys {
		if key := some(g); !slices.Contains(n.Keys, key) {
			n.Keys = append(n.Keys, key)
			n.Vals = append(n.Vals, max(1, some(g)))
		}
	}
	slices.Sort(n.Keys)
	return n
}

// some: a number of any kind.
func some(g *rand.Rand) uint64 {
	switch g.IntN(3) {
	case 0:
		return edges[g.IntN(len(edges))]
	case 1:
		return g.Uint64N(300)
	}
	return g.Uint64()
}

// copied: the same node, in memory of its own.
func copied(n api.Node) api.Node {
	return api.Node{Leaf: n.Leaf, Keys: slices.Clone(n.Keys), Vals: slices.Clone(n.Vals)}
}

// alike: what Same should tell.
func alike(a, b api.Node) bool {
	return a.Leaf == b.Leaf && slices.Equal(a.Keys, b.Keys) && slices.Equal(a.Vals, b.Vals)
}

// plainMay: what May should tell.
func plainMay(n api.Node) bool {
	rising := slices.IsSorted(n.Keys) && len(slices.Compact(slices.Clone(n.Keys))) == len(n.Keys)
	return len(n.Keys) >= 1 && len(n.Keys) <= 8 && len(n.Vals) == len(n.Keys) && rising && !slices.Contains(n.Vals, 0)
}

// words: numbers of eight bytes each, the highest first.
func words(l ...uint64) []byte {
	var b []byte
	for _, n := range l {
		b = binary.BigEndian.AppendUint64(b, n)
	}
	return b
}

// plainForm: the form of a node of as many values as keys, by the chapter's words, whether it may be or not.
func plainForm(n api.Node) []byte {
	b := []byte{0, byte(len(n.Keys))}
	if n.Leaf {
		b[0] = 1
	}
	for i, key := range n.Keys {
		b = append(b, words(key, n.Vals[i])...)
	}
	return b
}

// plainTake: what Take should tell. Whatever is wrong in the bytes that are there comes ahead of their end.
func plainTake(b []byte) (api.Node, api.Errno) {
	padded := append(slices.Clone(b), make([]byte, 200)...)
	wrong := func(read int, is bool) bool { return is && read <= len(b) }
	word := func(i int) uint64 { return binary.BigEndian.Uint64(padded[2+8*i:]) }
	if wrong(1, padded[0] > 1) || wrong(2, padded[1] < 1 || padded[1] > 8) {
		return api.Node{}, api.ErrForm
	}
	n := api.Node{Leaf: padded[0] == 1}
	for i := range int(padded[1]) {
		if wrong(10+16*i, i > 0 && word(2*i) <= word(max(0, 2*i-2))) || wrong(18+16*i, word(2*i+1) == 0) {
			return api.Node{}, api.ErrForm
		}
		n.Keys = append(n.Keys, word(2*i))
		n.Vals = append(n.Vals, word(2*i+1))
	}
	if len(b) < 2+16*len(n.Keys) {
		return api.Node{}, api.ErrShort
	}
	if len(bytes.Trim(b[2+16*len(n.Keys):], "\x00")) > 0 {
		return api.Node{}, api.ErrForm
	}
	return n, api.OK
}

// may: that a node may be, and has that form.
func may(t *testing.T, n api.Node, form []byte) {
	t.Helper()
	if !node.May(n) {
		t.Errorf("May of %v = false", n)
	}
	if got, e := node.Put(n); e != api.OK || !bytes.Equal(got, form) {
		t.Errorf("Put of %v = % x, %d, want % x", n, got, e, form)
	}
}

// mayNot: that a node may not be, and has no form.
func mayNot(t *testing.T, n api.Node) {
	t.Helper()
	if node.May(n) {
		t.Errorf("May of %v = true", n)
	}
	if got, e := node.Put(n); e != api.ErrArg || len(got) != 0 {
		t.Errorf("Put of %v = % x, %d, want none, %d", n, got, e, api.ErrArg)
	}
}

// takes: that just this node is taken.
func takes(t *testing.T, b []byte, want api.Node) {
	t.Helper()
	if got, e := node.Take(b); e != api.OK || !alike(got, want) {
		t.Errorf("Take of % x = %v, %d, want %v", b, got, e, want)
	}
}

// refused: that nothing is taken, by that error.
func refused(t *testing.T, b []byte, want api.Errno) {
	t.Helper()
	if got, e := node.Take(b); e != want || !alike(got, api.Node{}) {
		t.Errorf("Take of % x = %v, %d, want none, %d", b, got, e, want)
	}
}

// TestMayByNumberOfKeys: P9.1: 1 to 8 keys, whatever else is right; a leaf and an inner node alike.
func TestMayByNumberOfKeys(t *testing.T) {
	for n := range 300 {
		for _, first := range []uint64{0, 1, 1 << 62} {
			for _, x := range both(list(n, first, 3), list(n, 1, 1)) {
				if n >= 1 && n <= 8 {
					may(t, x, plainForm(x))
				} else {
					mayNot(t, x)
				}
			}
		}
	}
	for _, n := range []int{1 << 8, 1<<8 + 1, 1<<8 + 8, 1 << 16, 1<<16 + 1, 1<<20 + 3} {
		mayNot(t, leaf(list(n, 0, 1), list(n, 1, 1)))
	}
}

// TestMayOfNone: P9.1, R4: a node without keys may not be, whichever lists of none it has.
func TestMayOfNone(t *testing.T) {
	for _, none := range nones() {
		for _, vals := range append(nones(), []uint64{1}, []uint64{0}) {
			mayNot(t, leaf(none, vals))
			mayNot(t, inner(none, vals))
			mayNot(t, leaf(vals, none))
			mayNot(t, inner(vals, none))
		}
	}
}

// TestMayByRisingKeys: P9.1: of each number of keys each one equal to the one ahead, or below it; the greatest key, too, behind which none may stand.
func TestMayByRisingKeys(t *testing.T) {
	for n := 2; n <= 8; n++ {
		for i := 1; i < n; i++ {
			for _, first := range []uint64{0, 5, 1<<63 - 40, greatest - 80} {
				x := leaf(list(n, first, 10), list(n, 1, 1))
				may(t, x, plainForm(x))
				for _, key := range []uint64{x.Keys[i-1], x.Keys[i-1] - 1, x.Keys[i-1] - 2, 0} {
					y := copied(x)
					y.Keys[i] = key
					if key < y.Keys[i-1] || key == y.Keys[i-1] {
						mayNot(t, y)
					}
				}
				y := copied(x)
				y.Keys[i] = y.Keys[i-1] + 1
				may(t, y, plainForm(y))
				y.Keys[i-1] = greatest
				mayNot(t, y)
			}
		}
		mayNot(t, leaf(make([]uint64, n), list(n, 1, 1)))
		mayNot(t, inner(slices.Repeat([]uint64{greatest}, n), list(n, 1, 1)))
	}
}

// TestMayOfKeysAtTheEdges: P9.1: keys are numbers without a sign, of all 64 bits; 0 is one, the greatest is.
func TestMayOfKeysAtTheEdges(t *testing.T) {
	for i, a := range edges {
		x := leaf([]uint64{a}, []uint64{1})
		may(t, x, plainForm(x))
		for j, b := range edges {
			y := inner([]uint64{a, b}, []uint64{1, 1})
			if i < j {
				may(t, y, plainForm(y))
			} else {
				mayNot(t, y)
			}
		}
	}
}

// TestMayByValues: P9.1: no value is 0, wherever it stands; all others may be, in any order, equal ones too.
func TestMayByValues(t *testing.T) {
	for n := 1; n <= 8; n++ {
		for i := range n {
			x := inner(list(n, 0, 1), list(n, 1, 1))
			x.Vals[i] = 0
			mayNot(t, x)
			for _, val := range edges[1:] {
				x.Vals[i] = val
				may(t, x, plainForm(x))
			}
		}
		x := leaf(list(n, 0, 1), slices.Repeat([]uint64{7}, n))
		may(t, x, plainForm(x))
	}
}

// TestMayOfOtherNumbersOfValues: P9.1: as many values as keys: no more, no fewer.
func TestMayOfOtherNumbersOfValues(t *testing.T) {
	for keys := range 12 {
		for vals := range 20 {
			if keys != vals {
				mayNot(t, leaf(list(keys, 1, 1), list(vals, 1, 1)))
				mayNot(t, inner(list(keys, 1, 1), list(vals, 1, 1)))
			}
		}
		mayNot(t, leaf(list(keys, 1, 1), list(keys+256, 1, 1)))
		mayNot(t, leaf(list(keys+256, 1, 1), list(keys, 1, 1)))
	}
}

// lists: each list of up to so many of these numbers.
func lists(of []uint64, most int) [][]uint64 {
	all := [][]uint64{nil}
	last := all
	for range most {
		var next [][]uint64
		for _, l := range last {
			for _, x := range of {
				next = append(next, append(slices.Clone(l), x))
			}
		}
		all = append(all, next...)
		last = next
	}
	return all
}

// TestMayOfAllSmall: P9.1: all nodes of up to four keys and values of a few kinds, held against the chapter's words.
func TestMayOfAllSmall(t *testing.T) {
	for _, keys := range lists([]uint64{0, 1, 1 << 63, greatest}, 4) {
		for _, vals := range lists([]uint64{0, 1, greatest}, 4) {
			for _, x := range both(keys, vals) {
				if plainMay(x) {
					may(t, x, plainForm(x))
				} else {
					mayNot(t, x)
				}
			}
		}
	}
}

// TestMayAgainstPlain: P9.1: nodes of each number of keys, most of them almost right.
func TestMayAgainstPlain(t *testing.T) {
	g := numbers(1)
	told := map[bool]int{}
	for range 40000 {
		x := right(g, g.IntN(11))
		if n := len(x.Keys); n > 0 {
			switch i := g.IntN(n); g.IntN(8) {
			case 0:
				x.Keys[i] = some(g)
			case 1:
				x.Vals[i] = some(g)
			case 2:
				x.Keys[i] = x.Keys[g.IntN(n)]
			case 3:
				x.Vals = x.Vals[:i]
			case 4:
				x.Keys = x.Keys[:i]
			}
		}
		told[plainMay(x)]++
		if plainMay(x) {
			may(t, x, plainForm(x))
		} else {
			mayNot(t, x)
		}
	}
	if told[true] < 1000 || told[false] < 1000 {
		t.Errorf("May told %v alone", told)
	}
}

// TestPutByteByByte: P9.1: where each byte of a form stands, told without a rule.
func TestPutByteByByte(t *testing.T) {
	x := inner([]uint64{0x0102030405060708, 0x8112131415161718}, []uint64{0xa1a2a3a4a5a6a7a8, 0x2122232425262728})
	may(t, x, []byte{
		0, 2,
		1, 2, 3, 4, 5, 6, 7, 8, 0xa1, 0xa2, 0xa3, 0xa4, 0xa5, 0xa6, 0xa7, 0xa8,
		0x81, 0x12, 0x13, 0x14, 0x15, 0x16, 0x17, 0x18, 0x21, 0x22, 0x23, 0x24, 0x25, 0x26, 0x27, 0x28,
	})
	takes(t, plainForm(x), x)
	x.Leaf = true
	form := plainForm(x)
	if form[0] != 1 || form[1] != 2 || len(form) != 34 {
		t.Errorf("% x", form)
	}
	may(t, x, form)
	takes(t, form, x)
}

// TestBack: P9.2, P9.4: what was put, with any noughts behind it, is taken as it was.
func TestBack(t *testing.T) {
	g := numbers(2)
	for keys := 1; keys <= 8; keys++ {
		for range 300 {
			x := right(g, keys)
			form, e := node.Put(x)
			if e != api.OK {
				t.Errorf("Put of %v = %d", x, e)
			}
			for _, behind := range []int{0, 1, 2, 7, 8, 15, 16, 17, 240 - len(form), 256, 1000} {
				takes(t, append(slices.Clone(form), make([]byte, behind)...), x)
			}
		}
		x := right(g, keys)
		takes(t, append(plainForm(x), make([]byte, 1<<20)...), x)
	}
}

// TestTakeOfFirstBytes: P9.2: each first byte, alone and with others behind it; ErrForm as soon as it is read.
func TestTakeOfFirstBytes(t *testing.T) {
	refused(t, nil, api.ErrShort)
	refused(t, []byte{}, api.ErrShort)
	refused(t, []byte{1, 1}[:0], api.ErrShort)
	form := plainForm(leaf([]uint64{5}, []uint64{7}))
	for first := range 256 {
		form[0] = byte(first)
		switch first {
		case 0:
			refused(t, form[:1], api.ErrShort)
			takes(t, form, inner([]uint64{5}, []uint64{7}))
		case 1:
			refused(t, form[:1], api.ErrShort)
			takes(t, form, leaf([]uint64{5}, []uint64{7}))
		default:
			for end := 1; end <= len(form); end++ {
				refused(t, form[:end], api.ErrForm)
			}
		}
	}
}

// TestTakeOfSecondBytes: P9.2: each second byte behind each first one, alone and with others behind it; ErrForm as soon as it is read.
func TestTakeOfSecondBytes(t *testing.T) {
	long := plainForm(inner(list(300, 1, 1), list(300, 1, 1)))
	for first := range 256 {
		for second := range 256 {
			long[0], long[1] = byte(first), byte(second)
			want := api.ErrShort
			if first > 1 || second < 1 || second > 8 {
				want = api.ErrForm
			}
			for _, end := range []int{2, 3, 10, 17} {
				refused(t, long[:end], want)
			}
			if want == api.ErrForm {
				refused(t, append([]byte{byte(first), byte(second)}, make([]byte, 300)...), api.ErrForm)
				refused(t, long[:2+16*second], api.ErrForm)
				refused(t, long, api.ErrForm)
			} else {
				keys := list(second, 1, 1)
				takes(t, long[:2+16*second], api.Node{Leaf: first == 1, Keys: keys, Vals: keys})
			}
		}
	}
}

// TestTakeOfCutForms: P9.2: a form that is cut at each of its bytes, whatever stands in its room behind that.
func TestTakeOfCutForms(t *testing.T) {
	g := numbers(3)
	for keys := 1; keys <= 8; keys++ {
		for range 20 {
			x := right(g, keys)
			form := plainForm(x)
			for end := range form {
				refused(t, form[:end], api.ErrShort)
				refused(t, slices.Clone(form[:end]), api.ErrShort)
			}
			takes(t, form, x)
		}
	}
}

// told: that Take tells just this of b, cut at each of its bytes: ErrShort with fewer than read bytes, ErrForm from there on.
func told(t *testing.T, b []byte, read int) {
	t.Helper()
	for end := 0; end <= len(b); end++ {
		if end < read {
			refused(t, b[:end], api.ErrShort)
		} else {
			refused(t, b[:end], api.ErrForm)
		}
	}
}

// TestTakeOfKeysThatDoNotRise: P9.2: a key that is not above the one ahead is told as soon as its eight bytes are read, not ahead: with its value 0 or cut off, too.
func TestTakeOfKeysThatDoNotRise(t *testing.T) {
	for n := 2; n <= 8; n++ {
		for i := 1; i < n; i++ {
			for _, first := range []uint64{0, 5, 1 << 63, greatest - 100} {
				x := leaf(list(n, first, 10), list(n, 1, 1))
				for _, key := range []uint64{x.Keys[i-1], x.Keys[i-1] - min(1, x.Keys[i-1]), 0} {
					y := copied(x)
					y.Keys[i] = key
					told(t, plainForm(y), 10+16*i)
					y.Vals[i] = 0
					told(t, append(plainForm(y), 1), 10+16*i)
				}
			}
		}
	}
}

// TestTakeBehindTheGreatestKey: P9.2: no key is above the greatest one.
func TestTakeBehindTheGreatestKey(t *testing.T) {
	for n := 2; n <= 8; n++ {
		for i := range n - 1 {
			for _, key := range append(slices.Clone(edges), 3, 4, 5, 6, 10) {
				x := inner(list(n, 2, 1), list(n, 1, 1))
				x.Keys[i] = greatest
				x.Keys[i+1] = key
				told(t, plainForm(x), 26+16*i)
			}
		}
		x := inner(list(n, 0, 1), list(n, 1, 1))
		x.Keys[n-1] = greatest
		takes(t, plainForm(x), x)
	}
}

// TestTakeOfKeysAtTheEdges: P9.2: each pair of keys: that the second one is above the first says all.
func TestTakeOfKeysAtTheEdges(t *testing.T) {
	for i, a := range edges {
		one := leaf([]uint64{a}, []uint64{1})
		takes(t, plainForm(one), one)
		for j, b := range edges {
			two := leaf([]uint64{a, b}, []uint64{1, 1})
			if i < j {
				takes(t, plainForm(two), two)
			} else {
				told(t, plainForm(two), 26)
			}
		}
	}
}

// TestTakeOfValues: P9.2: a value that is 0 is told as soon as its eight bytes are read, not ahead; all others may be.
func TestTakeOfValues(t *testing.T) {
	for n := 1; n <= 8; n++ {
		for i := range n {
			x := leaf(list(n, 0, 1), list(n, 1, 1))
			x.Vals[i] = 0
			told(t, plainForm(x), 18+16*i)
			told(t, append(plainForm(x), 0, 0, 9), 18+16*i)
			for _, val := range edges[1:] {
				x.Vals[i] = val
				takes(t, plainForm(x), x)
			}
			for bit := range 64 {
				x.Vals[i] = 1 << bit
				takes(t, plainForm(x), x)
			}
		}
	}
}

// TestTakeWithSomethingBehind: P9.2: a byte behind the form that is not 0, alone and behind noughts, ahead of noughts and of others.
func TestTakeWithSomethingBehind(t *testing.T) {
	for n := 1; n <= 8; n++ {
		x := inner(list(n, 1, 1), list(n, 1, 1))
		form := plainForm(x)
		for ahead := range 240 {
			for _, behind := range []byte{1, 2, 127, 128, 254, 255} {
				b := append(slices.Clone(form), make([]byte, ahead)...)
				takes(t, b, x)
				b = append(b, behind)
				refused(t, b, api.ErrForm)
				refused(t, append(b, 0), api.ErrForm)
				refused(t, append(b, make([]byte, 20)...), api.ErrForm)
				refused(t, append(b, -behind), api.ErrForm)
			}
		}
		refused(t, append(slices.Clone(form), words(9, 9)...), api.ErrForm)
		takes(t, append(slices.Clone(form), 3)[:len(form)], x)
	}
}

// fault: something that is wrong in a form, how many bytes are read when it is told, and by which error.
type fault struct {
	lay  func(b []byte) []byte
	read int
	e    api.Errno
}

// faults: all of them of the form of a node of n keys, 10, 20 and so on.
func faults(n int) []fault {
	l := []fault{
		{func(b []byte) []byte { b[0] = 2; return b }, 1, api.ErrForm},
		{func(b []byte) []byte { b[1] = 0; return b }, 2, api.ErrForm},
		{func(b []byte) []byte { b[1] = 9; return b }, 2, api.ErrForm},
		{func(b []byte) []byte { return append(b, 1) }, 2 + 16*n, api.ErrForm},
		{func(b []byte) []byte { return append(b, 0, 0, 200) }, 2 + 16*n, api.ErrForm},
	}
	for i := range n {
		if i > 0 {
			l = append(l, fault{func(b []byte) []byte { copy(b[2+16*i:], words(5)); return b }, 10 + 16*i, api.ErrForm})
		}
		l = append(l, fault{func(b []byte) []byte { copy(b[10+16*i:], words(0)); return b }, 18 + 16*i, api.ErrForm})
	}
	return l
}

// TestTakeOfSeveralFaults: P9.2, R5: of each two things that are wrong, with the bytes cut anywhere besides, the one is told that comes first from the left.
func TestTakeOfSeveralFaults(t *testing.T) {
	for n := 1; n <= 8; n++ {
		all := faults(n)
		for i, one := range all {
			for _, two := range all[i:] {
				b := two.lay(one.lay(plainForm(leaf(list(n, 10, 10), list(n, 1, 1)))))
				first := min(one.read, two.read)
				for end := 0; end < 2+16*n; end++ {
					if end < first {
						refused(t, b[:end], api.ErrShort)
					} else {
						refused(t, b[:end], api.ErrForm)
					}
				}
				refused(t, b, api.ErrForm)
			}
		}
	}
}

// TestTakeAgainstPlain: P9.2, P9.4: any bytes, most of them almost right, held against the chapter's words; what is taken, put, is their beginning, and noughts alone stand behind it.
func TestTakeAgainstPlain(t *testing.T) {
	g := numbers(4)
	count := map[api.Errno]int{}
	for range 60000 {
		b := plainForm(right(g, 1+g.IntN(8)))
		b = append(b, make([]byte, g.IntN(3)*g.IntN(20))...)
		for range g.IntN(3) {
			at := g.IntN(len(b))
			switch g.IntN(6) {
			case 0:
				b[at] = byte(g.IntN(256))
			case 1:
				b[at] ^= 1 << g.IntN(8)
			case 2:
				b = b[:at+1]
			case 3:
				clear(b[at:min(len(b), at+g.IntN(17))])
			case 4:
				b[g.IntN(2)%len(b)] = byte(g.IntN(11))
			case 5:
				b = append(b, byte(g.IntN(2)*g.IntN(256)))
			}
		}
		got, e := node.Take(b)
		want, f := plainTake(b)
		if e != f || !alike(got, want) {
			t.Fatalf("Take of % x = %v, %d, want %v, %d", b, got, e, want, f)
		}
		count[e]++
		if e == api.OK {
			again(t, b, got)
		}
	}
	for _, e := range []api.Errno{api.OK, api.ErrShort, api.ErrForm} {
		if count[e] < 3000 {
			t.Errorf("%d was told %d times alone", e, count[e])
		}
	}
}

// again: that a node that was taken off b may be, and that its form is how b begins, with noughts alone behind it.
func again(t *testing.T, b []byte, n api.Node) {
	t.Helper()
	form, e := node.Put(n)
	if e != api.OK || !node.May(n) || !bytes.HasPrefix(b, form) || len(bytes.Trim(b[len(form):], "\x00")) != 0 {
		t.Errorf("Take of % x = %v, and put again % x, %d", b, n, form, e)
	}
}

// TestTakeOfAnyBytes: P9.2, R1, P8: bytes of no form at all.
func TestTakeOfAnyBytes(t *testing.T) {
	g := numbers(5)
	for range 40000 {
		b := make([]byte, g.IntN(300))
		for i := range b {
			b[i] = byte(g.Uint64() >> g.IntN(64))
		}
		if len(b) > 1 && g.IntN(4) > 0 {
			b[0], b[1] = byte(g.IntN(2)), byte(1+g.IntN(8))
		}
		got, e := node.Take(b)
		if want, f := plainTake(b); e != f || !alike(got, want) {
			t.Fatalf("Take of % x = %v, %d, want %v, %d", b, got, e, want, f)
		}
	}
}

// TestSameOfAllSmall: P9.3: each pair of nodes of up to three keys and values: of these nodes each one is the same as itself alone. Hardly one of them may be.
func TestSameOfAllSmall(t *testing.T) {
	var all []api.Node
	for _, keys := range lists([]uint64{0, 1}, 3) {
		for _, vals := range lists([]uint64{0, 1}, 3) {
			all = append(all, both(keys, vals)...)
		}
	}
	for i, a := range all {
		for j, b := range all {
			if got := node.Same(copied(a), copied(b)); got != (i == j) {
				t.Errorf("Same of %v and %v = %t", a, b, got)
			}
		}
	}
}

// isSame: that Same tells that of a and b, in either order.
func isSame(t *testing.T, a, b api.Node, want bool) {
	t.Helper()
	if node.Same(a, b) != want || node.Same(b, a) != want {
		t.Errorf("Same of %v and %v = %t", a, b, !want)
	}
}

// TestSameOfOneThing: P9.3: nodes of each number of keys, such as may not be among them, that differ in one thing alone: the kind, a list of keys, a list of values.
func TestSameOfOneThing(t *testing.T) {
	g := numbers(6)
	for n := range 20 {
		x := right(g, n)
		isSame(t, x, x, true)
		isSame(t, x, copied(x), true)
		isSame(t, x, api.Node{Leaf: !x.Leaf, Keys: x.Keys, Vals: x.Vals}, false)
		for _, keys := range others(x.Keys) {
			isSame(t, x, api.Node{Leaf: x.Leaf, Keys: keys, Vals: x.Vals}, false)
		}
		for _, vals := range others(x.Vals) {
			isSame(t, x, api.Node{Leaf: x.Leaf, Keys: x.Keys, Vals: vals}, false)
		}
	}
}

// others: lists that differ from l in little: a bit of a number, a number more or fewer at the end or at the beginning, two numbers that stand the other way about.
func others(l []uint64) [][]uint64 {
	var all [][]uint64
	for _, more := range []uint64{0, 1, greatest} {
		all = append(all, append(slices.Clone(l), more), append([]uint64{more}, l...))
	}
	for i := range l {
		for bit := range 64 {
			other := slices.Clone(l)
			other[i] ^= 1 << bit
			all = append(all, other)
		}
		all = append(all, l[:i], l[i+1:])
		if i > 0 && l[i] != l[i-1] {
			other := slices.Clone(l)
			other[i], other[i-1] = l[i-1], l[i]
			all = append(all, other)
		}
	}
	return all
}

// TestSameOfListsThatRunOn: P9.3: keys are held against keys, values against values, even where both lists together are the same.
func TestSameOfListsThatRunOn(t *testing.T) {
	isSame(t, leaf([]uint64{1, 2}, []uint64{3}), leaf([]uint64{1}, []uint64{2, 3}), false)
	isSame(t, leaf([]uint64{1, 2}, nil), leaf(nil, []uint64{1, 2}), false)
	isSame(t, leaf([]uint64{1, 2}, []uint64{3, 4}), leaf([]uint64{3, 4}, []uint64{1, 2}), false)
	isSame(t, leaf([]uint64{1, 3}, []uint64{2, 4}), leaf([]uint64{1, 2}, []uint64{3, 4}), false)
}

// TestSameOfNone: P9.3, R4: lists of none are the same, whichever they are.
func TestSameOfNone(t *testing.T) {
	for _, a := range nones() {
		for _, b := range nones() {
			isSame(t, leaf(a, b), leaf(b, a), true)
			isSame(t, inner(a, b), inner(nil, nil), true)
			isSame(t, inner(a, b), leaf(a, b), false)
			isSame(t, leaf(a, []uint64{4}), leaf(b, []uint64{4}), true)
			isSame(t, leaf([]uint64{4}, a), leaf([]uint64{4}, b), true)
			isSame(t, leaf([]uint64{0}, a), leaf(b, a), false)
			isSame(t, leaf(a, []uint64{0}), leaf(a, b), false)
		}
	}
	long := list(1<<16, 0, 1)
	isSame(t, leaf(long, long), leaf(slices.Clone(long), long), true)
	isSame(t, leaf(long, long), leaf(long, append(slices.Clone(long[:1<<16-1]), 0)), false)
}

// room: a node whose lists have room behind them in which something stands, and all of their memory.
func room(g *rand.Rand, n int) (api.Node, [2][]uint64) {
	x := right(g, n)
	keys, vals := append(x.Keys, 77, 78), append(x.Vals, 79, 80)
	return api.Node{Leaf: x.Leaf, Keys: keys[:n], Vals: vals[:n]}, [2][]uint64{keys, vals}
}

// TestHandedInStays: R3: nodes and bytes that are handed in, and what stands in their room, are as they were, with an error, too.
func TestHandedInStays(t *testing.T) {
	g := numbers(7)
	for n := range 11 {
		for range 50 {
			x, all := room(g, n)
			if n > 1 && g.IntN(3) == 0 {
				x.Keys[g.IntN(n)] = 3
			}
			was, wasAll := copied(x), [2][]uint64{slices.Clone(all[0]), slices.Clone(all[1])}
			node.May(x)
			node.Put(x)
			node.Same(x, right(g, n))
			node.Same(right(g, n), x)
			if !alike(x, was) || !slices.Equal(all[0], wasAll[0]) || !slices.Equal(all[1], wasAll[1]) {
				t.Errorf("%v has become %v", was, x)
			}
			b := append(plainForm(x), byte(g.IntN(2)), 0, 5, 6)
			wasBytes := slices.Clone(b)
			for end := range b {
				node.Take(b[:end])
			}
			if !bytes.Equal(b, wasBytes) {
				t.Errorf("% x has become % x", wasBytes, b)
			}
		}
	}
}

// scribbled: all of a list is written over, its room too.
func scribbled[T byte | uint64](l []T) {
	l = l[:cap(l)]
	for i := range l {
		l[i] ^= 0x5a
	}
}

// TestFormLivesApart: R3: a form shares nothing with its node, or with that of another call.
func TestFormLivesApart(t *testing.T) {
	g := numbers(8)
	for n := 1; n <= 8; n++ {
		x := right(g, n)
		want := plainForm(x)
		one, _ := node.Put(x)
		two, _ := node.Put(x)
		scribbled(one)
		if !bytes.Equal(two, want) {
			t.Errorf("forms of %v share memory", x)
		}
		may(t, x, want)
		scribbled(x.Keys)
		scribbled(x.Vals)
		if !bytes.Equal(two, want) {
			t.Errorf("the form % x hangs on what becomes of its node", want)
		}
	}
}

// TestTakenLivesApart: R3: the lists of a node that is taken share nothing with its bytes, with each other, or with those of another call.
func TestTakenLivesApart(t *testing.T) {
	g := numbers(9)
	for n := 1; n <= 8; n++ {
		x := right(g, n)
		b := plainForm(x)
		one, _ := node.Take(b)
		two, _ := node.Take(b)
		scribbled(one.Keys)
		if !slices.Equal(one.Vals, x.Vals) {
			t.Errorf("the keys and the values of %v share memory", x)
		}
		scribbled(one.Vals)
		takes(t, b, x)
		three, _ := node.Take(b)
		scribbled(three.Vals)
		if !slices.Equal(three.Keys, x.Keys) {
			t.Errorf("the values and the keys of %v share memory", x)
		}
		scribbled(b)
		if !alike(two, x) {
			t.Errorf("%v shares memory with others, or with its bytes", x)
		}
	}
}

// TestNothingIsKept: R7: what is answered hangs on what was handed in alone, not on what was asked ahead.
func TestNothingIsKept(t *testing.T) {
	g := numbers(10)
	for range 3000 {
		x := right(g, 1+g.IntN(8))
		form := plainForm(x)
		may(t, x, form)
		refused(t, form[:g.IntN(len(form))], api.ErrShort)
		takes(t, form, x)
		mayNot(t, api.Node{Leaf: x.Leaf, Keys: x.Keys})
		refused(t, append(form, 1), api.ErrForm)
		takes(t, append(plainForm(x), 0), x)
		isSame(t, x, copied(x), true)
	}
}

// TestExamples: the chapter's.
func TestExamples(t *testing.T) {
	x := leaf([]uint64{5}, []uint64{7})
	form := []byte{1, 1, 0, 0, 0, 0, 0, 0, 0, 5, 0, 0, 0, 0, 0, 0, 0, 7}
	may(t, x, form)
	takes(t, append(slices.Clone(form), 0), x)
	refused(t, append(slices.Clone(form), 1), api.ErrForm)
	refused(t, []byte{2}, api.ErrForm)
	refused(t, []byte{1, 0}, api.ErrForm)
	refused(t, []byte{1, 9}, api.ErrForm)
	refused(t, []byte{1, 1}, api.ErrShort)
}
