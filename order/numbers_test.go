package order_test

import (
	"bytes"
	"math"
	"testing"

	"cistern/api"
	"cistern/order"
)

// badSizes: what no number may have as its size.
var badSizes = []int{0, 9, -1, -8, 10, 16, 64, 256 + 1, math.MaxInt, math.MinInt}

// samples: numbers whose bytes all differ, and the edges of each size.
func samples() []uint64 {
	l := []uint64{0, 1, 0x0102030405060708, 0xf0e1d2c3b4a59687, math.MaxUint64}
	for bits := 8; bits < 64; bits += 8 {
		edge := uint64(1) << bits
		l = append(l, edge-1, edge, edge+1)
	}
	return l
}

// below: n modulo 2^(8 size).
func below(n uint64, size int) uint64 {
	if size == 8 {
		return n
	}
	return n % (1 << (8 * size))
}

func TestPut(t *testing.T) {
	for _, x := range []struct {
		b    string
		n    uint64
		size int
		want string
	}{
		{"\x09", 258, 2, "\x09\x01\x02"},
		{"", 258, 2, "\x01\x02"},
		{"", 256, 1, "\x00"},
		{"", 0x1ff, 1, "\xff"},
		{"\x09", 0x010203, 2, "\x09\x02\x03"},
		{"", 0, 1, "\x00"},
		{"", 7, 4, "\x00\x00\x00\x07"},
		{"ab", 0x0102030405060708, 8, "ab\x01\x02\x03\x04\x05\x06\x07\x08"},
		{"", 0x0102030405060708, 7, "\x02\x03\x04\x05\x06\x07\x08"},
		{"", 0x0102030405060708, 5, "\x04\x05\x06\x07\x08"},
		{"", math.MaxUint64, 8, "\xff\xff\xff\xff\xff\xff\xff\xff"},
		{"", 1, 9, ""},
		{"ab", 1, 0, "ab"},
	} {
		if got := order.Put([]byte(x.b), x.n, x.size); string(got) != x.want {
			t.Errorf("Put(%q, %d, %d) = %q, want %q", x.b, x.n, x.size, got, x.want)
		}
	}
	if got := order.Put(nil, 258, 2); string(got) != "\x01\x02" {
		t.Errorf("Put behind nil = %q", got)
	}
}

func TestPutOfASizeThatMayNotBe(t *testing.T) {
	for _, size := range badSizes {
		if got := order.Put([]byte("ab"), math.MaxUint64, size); string(got) != "ab" {
			t.Errorf("Put of size %d = %q", size, got)
		}
		if got := order.Put(nil, math.MaxUint64, size); len(got) != 0 {
			t.Errorf("Put behind nil of size %d = %q", size, got)
		}
	}
}

// TestPutSharesNothing: b is only read, what has room behind it too, and the answer is new memory.
func TestPutSharesNothing(t *testing.T) {
	for _, size := range []int{0, 1, 8, 9, -1} {
		room := []byte("abcdefghijklmnop")
		got := order.Put(room[:2], math.MaxUint64, size)
		if string(room) != "abcdefghijklmnop" {
			t.Errorf("size %d: what was handed in is changed: %q", size, room)
		}
		again := string(got)
		room[0] = 'x'
		if string(got) != again {
			t.Errorf("size %d: the answer is what was handed in: %q", size, got)
		}
		got[1] = 'y'
		if room[1] != 'b' {
			t.Errorf("size %d: what was handed in is the answer: %q", size, room)
		}
	}
}

func TestGet(t *testing.T) {
	long := []byte{1, 2, 3, 4, 5, 6, 7, 8, 9}
	for _, x := range []struct {
		b    []byte
		size int
		n    uint64
		e    api.Errno
	}{
		{long[:3], 1, 1, api.OK},
		{long[:3], 2, 258, api.OK},
		{long[:3], 3, 66051, api.OK},
		{long[:3], 4, 0, api.ErrShort},
		{long[:3], 8, 0, api.ErrShort},
		{long, 8, 0x0102030405060708, api.OK},
		{long[1:], 8, 0x0203040506070809, api.OK},
		{long[:8], 8, 0x0102030405060708, api.OK},
		{long[:7], 8, 0, api.ErrShort},
		{[]byte{255, 254}, 2, 65534, api.OK},
		{[]byte{0, 0, 1}, 2, 0, api.OK},
		{bytes.Repeat([]byte{255}, 8), 8, math.MaxUint64, api.OK},
		{nil, 1, 0, api.ErrShort},
		{[]byte{}, 8, 0, api.ErrShort},
	} {
		if n, e := order.Get(x.b, x.size); n != x.n || e != x.e {
			t.Errorf("Get(% x, %d) = %d, %d, want %d, %d", x.b, x.size, n, e, x.n, x.e)
		}
	}
}

// TestGetOfASizeThatMayNotBe: the size is asked ahead of the bytes.
func TestGetOfASizeThatMayNotBe(t *testing.T) {
	for _, size := range badSizes {
		for _, b := range [][]byte{nil, {}, {1, 2, 3}, bytes.Repeat([]byte{7}, 20)} {
			if n, e := order.Get(b, size); n != 0 || e != api.ErrArg {
				t.Errorf("Get(% x, %d) = %d, %d", b, size, n, e)
			}
		}
	}
}

func TestGetOnlyReads(t *testing.T) {
	b := []byte{1, 2, 3}
	order.Get(b, 2)
	if string(b) != "\x01\x02\x03" {
		t.Errorf("what was handed in is changed: % x", b)
	}
}

// TestBack: P1.5, what Put laid is got back, whatever stands behind it.
func TestBack(t *testing.T) {
	for size := 1; size <= 8; size++ {
		for _, n := range samples() {
			b := order.Put(nil, n, size)
			if len(b) != size {
				t.Fatalf("Put of %d in %d: %d bytes", n, size, len(b))
			}
			for _, b := range [][]byte{b, append(bytes.Clone(b), 0xaa)} {
				if got, e := order.Get(b, size); got != below(n, size) || e != api.OK {
					t.Errorf("Get of Put of %d in %d = %d, %d", n, size, got, e)
				}
			}
		}
	}
}

// TestLesserHasLesserBytes: P1.5, bytes stand in the order of their numbers.
func TestLesserHasLesserBytes(t *testing.T) {
	for size := 1; size <= 8; size++ {
		for _, a := range samples() {
			for _, b := range samples() {
				x, y := below(a, size), below(b, size)
				want := 0
				if x < y {
					want = -1
				} else if x > y {
					want = 1
				}
				if got := bytes.Compare(order.Put(nil, x, size), order.Put(nil, y, size)); got != want {
					t.Errorf("%d and %d in %d bytes: %d, want %d", x, y, size, got, want)
				}
			}
		}
	}
}
