package order_test

import (
	"bytes"
	"math"
	"slices"
	"testing"

	"cistern/order"
)

// tapeOf: a tape with these parts.
func tapeOf(parts ...string) *order.Tape {
	x := order.New()
	for _, p := range parts {
		x.Push([]byte(p))
	}
	return x
}

// holds: the tape's bytes are these, by Len and by Peek.
func holds(t *testing.T, x *order.Tape, want string) {
	t.Helper()
	if x.Len() != len(want) {
		t.Errorf("Len = %d, want %d", x.Len(), len(want))
	}
	if b, ok := x.Peek(len(want)); !ok || string(b) != want {
		t.Errorf("the tape has %q, %v, want %q", b, ok, want)
	}
}

// one of the two calls that answer bytes.
type call struct {
	name string
	do   func(*order.Tape, int) ([]byte, bool)
	take bool
}

func calls() []call {
	return []call{{"Peek", (*order.Tape).Peek, false}, {"Take", (*order.Tape).Take, true}}
}

func TestNew(t *testing.T) {
	x, y := order.New(), order.New()
	holds(t, x, "")
	x.Push([]byte("ab"))
	holds(t, x, "ab")
	holds(t, y, "")
	y.Push([]byte("c"))
	holds(t, x, "ab")
	holds(t, y, "c")
}

func TestPush(t *testing.T) {
	x := order.New()
	x.Push(nil)
	x.Push([]byte{})
	holds(t, x, "")
	x.Push([]byte("ab"))
	holds(t, x, "ab")
	x.Push(nil)
	x.Push([]byte("c"))
	x.Push([]byte("\x00d"))
	holds(t, x, "abc\x00d")
}

func TestPushKeepsNothing(t *testing.T) {
	x := order.New()
	for range 3 {
		room := []byte("abcdef")
		x.Push(room[:2])
		if string(room) != "abcdef" {
			t.Errorf("what was handed in is changed: %q", room)
		}
		room[0], room[1] = 'x', 'y'
	}
	holds(t, x, "ababab")
}

func TestPeekAndTake(t *testing.T) {
	for _, c := range calls() {
		for n := 0; n <= 5; n++ {
			x := tapeOf("ab", "cde")
			if b, ok := c.do(x, n); !ok || string(b) != "abcde"[:n] {
				t.Errorf("%s(%d) = %q, %v", c.name, n, b, ok)
			}
			if c.take {
				holds(t, x, "abcde"[n:])
			} else {
				holds(t, x, "abcde")
			}
		}
		if b, ok := c.do(order.New(), 0); !ok || len(b) != 0 {
			t.Errorf("%s(0) of an empty tape = %q, %v", c.name, b, ok)
		}
	}
}

func TestPeekAndTakeOfWhatIsNotThere(t *testing.T) {
	for _, c := range calls() {
		for _, n := range []int{-1, -3, 4, 5, 100, math.MaxInt, math.MinInt} {
			x := tapeOf("abc")
			if b, ok := c.do(x, n); ok || len(b) != 0 {
				t.Errorf("%s(%d) = %q, %v", c.name, n, b, ok)
			}
			holds(t, x, "abc")
		}
		if b, ok := c.do(order.New(), 1); ok || len(b) != 0 {
			t.Errorf("%s(1) of an empty tape = %q, %v", c.name, b, ok)
		}
	}
}

// TestAnswersAreNewMemory: neither what is done to an answer, or behind it, nor what comes later to the tape, shows in the other.
func TestAnswersAreNewMemory(t *testing.T) {
	for _, c := range calls() {
		x := tapeOf("abcdef")
		b, _ := c.do(x, 2)
		again, _ := x.Peek(x.Len())
		want := string(again)
		b[0] = 'x'
		_ = append(b, "yyyy"...)
		holds(t, x, want)

		x.Push([]byte("zzzzzzzzzzzzzzzz"))
		x.Take(3)
		x.Push([]byte("wwwwwwwwwwwwwwww"))
		if string(b) != "xb" {
			t.Errorf("%s: the answer became %q", c.name, b)
		}
	}
}

func TestTakeTheLast(t *testing.T) {
	x := tapeOf("abc")
	x.Take(3)
	holds(t, x, "")
	if b, ok := x.Take(1); ok || len(b) != 0 {
		t.Errorf("Take of what is gone = %q, %v", b, ok)
	}
	x.Push([]byte("de"))
	holds(t, x, "de")
}

func TestNumbers(t *testing.T) {
	for _, take := range []bool{false, true} {
		for _, x := range []struct {
			sizes []int
			want  []uint64
			left  string
		}{
			{nil, nil, "\x01\x02\x03\x04\x05\x06\x07\x08\x09"},
			{[]int{1}, []uint64{1}, "\x02\x03\x04\x05\x06\x07\x08\x09"},
			{[]int{2, 1}, []uint64{0x0102, 3}, "\x04\x05\x06\x07\x08\x09"},
			{[]int{1, 2}, []uint64{1, 0x0203}, "\x04\x05\x06\x07\x08\x09"},
			{[]int{8}, []uint64{0x0102030405060708}, "\x09"},
			{[]int{8, 1}, []uint64{0x0102030405060708, 9}, ""},
			{[]int{1, 8}, []uint64{1, 0x0203040506070809}, ""},
			{[]int{4, 3, 2}, []uint64{0x01020304, 0x050607, 0x0809}, ""},
			{[]int{1, 1, 1, 1, 1, 1, 1, 1, 1}, []uint64{1, 2, 3, 4, 5, 6, 7, 8, 9}, ""},
		} {
			tape := tapeOf("\x01", "\x02\x03\x04\x05\x06", "\x07\x08\x09")
			sizes := slices.Clone(x.sizes)
			l, ok := tape.Numbers(take, sizes...)
			if !ok || !slices.Equal(l, x.want) {
				t.Errorf("Numbers(%v, %v) = %v, %v", take, x.sizes, l, ok)
			}
			if !slices.Equal(sizes, x.sizes) {
				t.Errorf("the sizes became %v", sizes)
			}
			if take {
				holds(t, tape, x.left)
			} else {
				holds(t, tape, "\x01\x02\x03\x04\x05\x06\x07\x08\x09")
			}
		}
	}
}

// TestNumbersThatAreNotWhole: as many bytes as all together are wanted ahead of the first.
func TestNumbersThatAreNotWhole(t *testing.T) {
	for _, take := range []bool{false, true} {
		for _, sizes := range [][]int{{4}, {8}, {2, 2}, {1, 1, 1, 1}, {3, 1}, {1, 8}, {8, 1}, {2, 1, 1}} {
			x := tapeOf("abc")
			if l, ok := x.Numbers(take, sizes...); ok || len(l) != 0 {
				t.Errorf("Numbers(%v, %v) = %v, %v", take, sizes, l, ok)
			}
			holds(t, x, "abc")
		}
		if l, ok := order.New().Numbers(take, 1); ok || len(l) != 0 {
			t.Errorf("Numbers(%v, 1) of an empty tape = %v, %v", take, l, ok)
		}
	}
}

// TestNumbersOfASizeThatMayNotBe: wherever it stands, nothing is told, and nothing is gone.
func TestNumbersOfASizeThatMayNotBe(t *testing.T) {
	all := string(bytes.Repeat([]byte("abcdefghij"), 60))
	for _, take := range []bool{false, true} {
		for _, bad := range badSizes {
			for _, sizes := range [][]int{{bad}, {bad, 1}, {1, bad}, {2, bad, 2}, {8, 8, bad}, {bad, bad}, {bad, -bad}} {
				x := tapeOf(all)
				if l, ok := x.Numbers(take, sizes...); ok || len(l) != 0 {
					t.Errorf("Numbers(%v, %v) = %v, %v", take, sizes, l, ok)
				}
				holds(t, x, all)
				if l, ok := order.New().Numbers(take, sizes...); ok || len(l) != 0 {
					t.Errorf("Numbers(%v, %v) of an empty tape = %v, %v", take, sizes, l, ok)
				}
			}
		}
	}
}

func TestNumbersOfNoSize(t *testing.T) {
	for _, take := range []bool{false, true} {
		for _, all := range []string{"", "abc"} {
			x := tapeOf(all)
			if l, ok := x.Numbers(take); !ok || len(l) != 0 {
				t.Errorf("Numbers(%v) of %q = %v, %v", take, all, l, ok)
			}
			holds(t, x, all)
		}
	}
}

// TestNil: P1.4.
func TestNil(t *testing.T) {
	var x *order.Tape
	x.Push(nil)
	x.Push([]byte("abc"))
	if x.Len() != 0 {
		t.Errorf("Len of nil = %d", x.Len())
	}
	for _, c := range calls() {
		for _, n := range []int{0, 1, -1, 3, math.MaxInt, math.MinInt} {
			if b, ok := c.do(x, n); ok || len(b) != 0 {
				t.Errorf("%s(%d) of nil = %q, %v", c.name, n, b, ok)
			}
		}
	}
	for _, take := range []bool{false, true} {
		for _, sizes := range [][]int{nil, {1}, {8, 8}, {0}, {9}, {-1}} {
			if l, ok := x.Numbers(take, sizes...); ok || len(l) != 0 {
				t.Errorf("Numbers(%v, %v) of nil = %v, %v", take, sizes, l, ok)
			}
		}
	}
}

// cut: all cut into parts behind those bytes whose bit of where is set.
func cut(all string, where int) []string {
	var parts []string
	from := 0
	for i := range all {
		if where>>i&1 == 1 {
			parts = append(parts, all[from:i+1])
			from = i + 1
		}
	}
	return append(parts, all[from:])
}

// TestParts: P1.6, in whatever parts the bytes come, what comes off is the same, each byte once.
func TestParts(t *testing.T) {
	const all = "\x01\x02\x03\x04\x05\x06\x07\x08\x09"
	for where := range 1 << (len(all) - 1) {
		x := tapeOf(cut(all, where)...)
		if l, ok := x.Numbers(true, 2, 1); !ok || !slices.Equal(l, []uint64{0x0102, 3}) {
			t.Fatalf("cut %b: numbers %v, %v", where, l, ok)
		}
		if b, ok := x.Take(2); !ok || string(b) != "\x04\x05" {
			t.Fatalf("cut %b: bytes %q, %v", where, b, ok)
		}
		if l, ok := x.Numbers(false, 4); !ok || !slices.Equal(l, []uint64{0x06070809}) {
			t.Fatalf("cut %b: numbers %v, %v", where, l, ok)
		}
		holds(t, x, "\x06\x07\x08\x09")
	}
}

// TestPartsBetween: P1.6, what is wanted too early is refused till the last of its bytes is there, and is whole then.
func TestPartsBetween(t *testing.T) {
	const all = "\x01\x02\x03\x04\x05\x06\x07"
	for where := range 1 << (len(all) - 1) {
		x := order.New()
		var told []uint64
		for _, p := range cut(all, where) {
			x.Push([]byte(p))
			for range all { // no more often than there are bytes: it ends, whatever the tape does
				l, ok := x.Numbers(true, 1, 2)
				if !ok {
					break
				}
				told = append(told, l...)
			}
		}
		if !slices.Equal(told, []uint64{1, 0x0203, 4, 0x0506}) {
			t.Fatalf("cut %b: %v", where, told)
		}
		holds(t, x, "\x07")
	}
}

// TestLongRun: many calls in a row, each held against a plain list of bytes.
func TestLongRun(t *testing.T) {
	x := order.New()
	var want []byte
	state := uint32(1)
	next := func(below int) int { // the same numbers in each run
		state = state*1664525 + 1013904223
		return int(state>>8) % below
	}
	for step := range 20000 {
		n := next(40)
		switch next(4) {
		case 0:
			part := make([]byte, n)
			for i := range part {
				part[i] = byte(next(256))
			}
			x.Push(part)
			want = append(want, part...)
		case 1:
			if b, ok := x.Peek(n); ok != (n <= len(want)) || ok && !bytes.Equal(b, want[:n]) {
				t.Fatalf("step %d: Peek(%d) = % x, %v", step, n, b, ok)
			}
		case 2:
			b, ok := x.Take(n)
			if ok != (n <= len(want)) || ok && !bytes.Equal(b, want[:n]) {
				t.Fatalf("step %d: Take(%d) = % x, %v", step, n, b, ok)
			}
			if ok {
				want = want[n:]
			}
		case 3:
			first, second := 1+next(8), 1+next(8)
			l, ok := x.Numbers(true, first, second)
			if ok != (first+second <= len(want)) {
				t.Fatalf("step %d: Numbers(%d, %d) = %v, %v", step, first, second, l, ok)
			}
			if ok {
				back := order.Put(order.Put(nil, l[0], first), l[1], second)
				if !bytes.Equal(back, want[:first+second]) {
					t.Fatalf("step %d: Numbers(%d, %d) = %v", step, first, second, l)
				}
				want = want[first+second:]
			}
		}
		if x.Len() != len(want) {
			t.Fatalf("step %d: Len = %d, want %d", step, x.Len(), len(want))
		}
	}
}
