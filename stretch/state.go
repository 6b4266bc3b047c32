package stretch

import (
	"maps"
	"math"
	"slices"

	"cistern/api"
	"cistern/refs"
	"cistern/tree"
)

// state is what stands ahead of a call that may fail on its way: the counts, and the nodes of a tree that may be changed where they stand.
type state struct {
	shelf  *tree.Shelf
	refs   *refs.Refs
	counts *refs.Refs
	nodes  map[uint64]api.Node // by their blocks
}

// keep keeps the node at a block, if it may be changed where it stands, and those beneath it. Beneath one that is copied nothing is changed where it stands either: others have it, too, or the commit has it, and all beneath it.
func (s *state) keep(at uint64) {
	b := block(at)
	if _, kept := s.nodes[at]; kept || !s.refs.Fresh(b) || s.refs.Count(b) > 1 {
		return
	}
	n, e := s.shelf.Load(at)
	if e != api.OK {
		return // nor can it be changed then
	}
	s.nodes[at] = n
	if n.Leaf {
		return
	}
	for _, child := range n.Vals {
		s.keep(child)
	}
}

// back puts all back, as far as the shelf lets it: what is told is the error that led here.
func (s *state) back() {
	s.refs.Become(s.counts)
	for _, at := range slices.Sorted(maps.Keys(s.nodes)) {
		s.shelf.Save(at, s.nodes[at])
	}
}

// block answers a block's number as the Refs take it: one that can't be such is none of theirs.
func block(at uint64) int {
	if at > math.MaxInt32 {
		return -1
	}
	return int(at)
}
