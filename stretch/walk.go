package stretch

import (
	"iter"
	"math"
	"slices"

	"cistern/api"
	"cistern/tree"
)

const (
	deepest   = 12            // so many nodes stand one beneath the other at most
	mostNodes = api.MaxBlocks // a right tree has no more: each of its nodes is another block
)

// direction is how a node's keys are gone through, each with its place.
type direction func(keys []uint64) iter.Seq2[int, uint64]

// walk goes through the pairs of a tree whose keys are from the least to the greatest that is asked for. It loads no node beneath which none of these can stand, and ends at the first error.
type walk struct {
	shelf    *tree.Shelf
	root     uint64
	least    uint64
	greatest uint64
	loaded   int // so many nodes were
	e        api.Errno
}

// all is a walk through a whole tree. One over a shelf that is none has its error from the beginning: a Lookup in the empty tree asks for nothing but the shelf.
func all(s *tree.Shelf, root uint64) *walk {
	_, _, e := tree.Lookup(s, 0, 0)
	return &walk{shelf: s, root: root, greatest: math.MaxUint64, e: e}
}

// rising hands on the pairs, the key rising, as long as more are asked for.
func (w *walk) rising(yield func(Pair) bool) { w.begin(slices.All[[]uint64], yield) }

// falling hands them on, the key falling.
func (w *walk) falling(yield func(Pair) bool) { w.begin(slices.Backward[[]uint64], yield) }

// first answers the first of the pairs that the walk hands on, and whether there is one.
func (w *walk) first(pairs iter.Seq[Pair]) (Pair, bool, api.Errno) {
	for p := range pairs {
		return p, true, api.OK
	}
	return Pair{}, false, w.e
}

// begin goes from the root on, if there is one.
func (w *walk) begin(by direction, yield func(Pair) bool) {
	if w.e == api.OK && w.root != 0 {
		w.through(w.root, 1, by, yield)
	}
}

// through hands on the pairs that stand at a block, so deep in the tree, and beneath it, and answers whether the walk goes on.
func (w *walk) through(at uint64, deep int, by direction, yield func(Pair) bool) bool {
	n := w.load(at, deep)
	for i, key := range by(n.Keys) {
		if !w.wants(n, i) {
			continue
		}
		var more bool
		if n.Leaf {
			more = yield(Pair{key, n.Vals[i]})
		} else {
			more = w.through(n.Vals[i], deep+1, by, yield)
		}
		if !more {
			return false
		}
	}
	return w.e == api.OK
}

// load answers the node at a block; one without keys, if the walk ends by an error here.
func (w *walk) load(at uint64, deep int) api.Node {
	if deep > deepest || w.loaded == mostNodes {
		w.e = api.ErrPool
		return api.Node{}
	}
	w.loaded++
	n, e := w.shelf.Load(at)
	w.e = e
	return n
}

// wants answers whether a leaf's pair is asked for, or one of those beneath an inner node's child may be: their keys are from its own key on, and below the next child's.
func (w *walk) wants(n api.Node, i int) bool {
	switch {
	case n.Keys[i] > w.greatest:
		return false
	case n.Leaf:
		return n.Keys[i] >= w.least
	}
	return i+1 == len(n.Keys) || n.Keys[i+1] > w.least
}
