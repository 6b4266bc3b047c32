// Package order is layer 1: numbers as bytes, the highest first, and a tape of bytes that come in parts.
package order

import (
	"bytes"

	"cistern/api"
)

// most is how many bytes a number has at most: those of uint64.
const most = 8

// Tape is bytes that come in parts.
type Tape struct{ held []byte }

// Put answers the bytes of b, and behind them the size lowest bytes of n (P1.1).
func Put(b []byte, n uint64, size int) []byte {
	if !sized(size) {
		size = 0
	}
	out := make([]byte, 0, len(b)+size)
	out = append(out, b...)
	for i := size - 1; i >= 0; i-- {
		out = append(out, byte(n>>(8*i)))
	}
	return out
}

// Get answers the number that the first size bytes of b are (P1.1).
func Get(b []byte, size int) (uint64, api.Errno) {
	if !sized(size) {
		return 0, api.ErrArg
	}
	if len(b) < size {
		return 0, api.ErrShort
	}
	var n uint64
	for _, x := range b[:size] {
		n = n<<8 | uint64(x)
	}
	return n, api.OK
}

// sized tells whether a number may have so many bytes.
func sized(size int) bool { return size >= 1 && size <= most }

// New makes a tape without bytes (P1.2).
func New() *Tape { return &Tape{} }

// Push lays the bytes of b behind those that are there (P1.2).
func (t *Tape) Push(b []byte) {
	if t != nil {
		t.held = append(t.held, b...)
	}
}

// Len tells how many bytes there are (P1.2).
func (t *Tape) Len() int {
	if t == nil {
		return 0
	}
	return len(t.held)
}

// Peek answers the first n bytes (P1.2).
func (t *Tape) Peek(n int) ([]byte, bool) {
	if t == nil || n < 0 || n > len(t.held) {
		return nil, false
	}
	return bytes.Clone(t.held[:n]), true
}

// Take answers the first n bytes, which are gone then (P1.2).
func (t *Tape) Take(n int) ([]byte, bool) {
	b, ok := t.Peek(n)
	if ok {
		t.held = t.held[n:]
	}
	return b, ok
}

// Numbers answers the numbers of these sizes that stand first; with take their bytes are gone then (P1.3).
func (t *Tape) Numbers(take bool, sizes ...int) ([]uint64, bool) {
	if take {
		return t.numbers((*Tape).Take, sizes)
	}
	return t.numbers((*Tape).Peek, sizes)
}

// numbers has call fetch all the bytes at once: where one number may not be, or is not whole, none is gone.
func (t *Tape) numbers(call func(*Tape, int) ([]byte, bool), sizes []int) ([]uint64, bool) {
	all, ok := sum(sizes, t.Len())
	if !ok {
		return nil, false
	}
	b, ok := call(t, all)
	if !ok {
		return nil, false
	}
	list := make([]uint64, 0, len(sizes))
	for _, size := range sizes {
		n, _ := Get(b, size)
		list = append(list, n)
		b = b[size:]
	}
	return list, true
}

// sum tells how many bytes numbers of these sizes have together, if each may be and they are no more than there are. It holds each against what is left, so that no sum wraps.
func sum(sizes []int, there int) (int, bool) {
	left := there
	for _, size := range sizes {
		if !sized(size) || size > left {
			return 0, false
		}
		left -= size
	}
	return there - left, true
}
