package cache

import "cistern/api"

// block is a block that is held.
type block struct {
	at    int
	bytes [api.Block]byte
	dirty bool
	used  uint64 // the number of the use that was its last
	spot  int    // where it stands among those that wait
}

// waiting is a heap of blocks that wait to go: its top was used the longest ago.
type waiting []*block

// Len is asked by package heap, as the four below are.
func (w waiting) Len() int { return len(w) }

// Less answers whether one block goes ahead of another.
func (w waiting) Less(i, j int) bool { return w[i].used < w[j].used }

// Swap lets two blocks change their spots, which they know.
func (w waiting) Swap(i, j int) {
	w[i], w[j] = w[j], w[i]
	w[i].spot, w[j].spot = i, j
}

// Push lays a block behind all others.
func (w *waiting) Push(x any) {
	b := x.(*block)
	b.spot = len(*w)
	*w = append(*w, b)
}

// Pop takes the last block off.
func (w *waiting) Pop() any {
	last := len(*w) - 1
	b := (*w)[last]
	(*w)[last] = nil // so that its memory goes, too
	*w = (*w)[:last]
	return b
}
