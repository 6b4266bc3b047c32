package pieces_test

import (
	"testing"

	"cistern/api"
	"cistern/pieces"
)

// TestExampleOfCut: the chapter's.
func TestExampleOfCut(t *testing.T) {
	cuts(t, 250, 10, []api.Piece{{Block: 0, From: 250, To: 256, At: 0}, {Block: 1, From: 0, To: 4, At: 6}})
	cuts(t, 256, 256, []api.Piece{{Block: 1, From: 0, To: 256, At: 0}})
	cuts(t, 5, 0, nil)
	cuts(t, 1<<32-1, 2, nil)
}

// TestExampleOfInner: the chapter's.
func TestExampleOfInner(t *testing.T) {
	inner(t, 250, 600, 1, 3)
	inner(t, 0, 255, 0, 0)
	inner(t, 256, 512, 1, 3)
}

// TestExampleOfWithin: the chapter's.
func TestExampleOfWithin(t *testing.T) {
	if !pieces.Within(3, 2, 5) {
		t.Error("Within(3, 2, 5) = false")
	}
	if pieces.Within(1<<64-1, 2, 5) {
		t.Error("Within(2^64 - 1, 2, 5) = true")
	}
}

// TestExampleOfLay: the chapter's.
func TestExampleOfLay(t *testing.T) {
	want := append([]byte("abyzef"), make([]byte, 250)...)
	lays(t, api.Piece{Block: 0, From: 2, To: 4, At: 1}, []byte("abcdef"), []byte("xyz"), want)
}

// TestMost: what the chapter says of it.
func TestMost(t *testing.T) {
	if pieces.Most != 65536 {
		t.Errorf("Most = %d", pieces.Most)
	}
}

// writer: who is handed pieces, and what came of them: a row of blocks.
type writer struct {
	blocks map[uint64][]byte
	data   []byte
}

// lay: a piece's bytes go into its block.
func (w *writer) lay(p api.Piece) api.Errno {
	w.blocks[p.Block] = pieces.Lay(p, w.blocks[p.Block], w.data)
	return api.OK
}

// lift: a piece's bytes are those that were laid.
func (w *writer) lift(p api.Piece) api.Errno {
	if got, want := pieces.Lift(p, w.blocks[p.Block]), w.data[p.At:p.At+p.To-p.From]; string(got) != string(want) {
		return api.ErrForm
	}
	return api.OK
}

// TestExampleOfAll: pieces are cut, and handed on to a method value.
func TestExampleOfAll(t *testing.T) {
	w := writer{map[uint64][]byte{}, noise(numbers(1), 600)}
	l := pieces.Cut(250, 600)
	if e := pieces.Each(l, w.lay); e != api.OK {
		t.Errorf("Each = %d", e)
	}
	if e := pieces.Each(l, w.lift); e != api.OK {
		t.Errorf("what was laid is not lifted: %d", e)
	}
	if len(w.blocks) != 4 {
		t.Errorf("%d blocks were written to", len(w.blocks))
	}
}
