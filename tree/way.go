package tree

import (
	"cistern/api"
	"cistern/knot"
	"cistern/node"
)

// step is a node on a way, which was shadowed.
type step struct {
	at    uint64   // its block
	was   api.Node // what was saved there
	node  api.Node // what is to stand there
	place int      // in it, of the one that comes next on the way
}

// way is what a call that changes a tree does: the nodes on the way down, the root first, what is to be saved, and what is told at last.
type way struct {
	shelf *Shelf
	steps []step
	saves []step
	root  uint64
	old   uint64
	there bool
}

// whole answers what is done, or the error by which that ended. Behind an error the Refs are what they were, as nothing may have changed behind ErrArg, which the layers can tell on the way, too.
func whole[T any](s *Shelf, do func() T) (done T, e api.Errno) {
	if !s.made() {
		return done, api.ErrNil
	}
	was := s.refs.Copy()
	defer func() {
		if x := recover(); x != nil {
			e = x.(api.Errno)
			s.refs.Become(was)
		}
	}()
	return do(), api.OK
}

// sure answers what a call told, if that was no error.
func sure[T any](told T, e api.Errno) T {
	must(e)
	return told
}

// must ends what is done by an error, if it is one.
func must(e api.Errno) {
	if e != api.OK {
		panic(e)
	}
}

// shadow answers the node at a block, and the block that it stands in then, which may be changed.
func (s *Shelf) shadow(at uint64) step {
	n := sure(s.Load(at))
	b := block(at)
	if s.refs.Fresh(b) && s.refs.Count(b) == 1 {
		return step{at: at, was: n, node: n}
	}
	to := uint64(sure(s.refs.Alloc()))
	if s.refs.Count(b) > 1 {
		for _, val := range n.Vals {
			must(s.refs.Inc(block(val)))
		}
	}
	s.less(at)
	must(s.Save(to, n))
	return step{at: to, was: n, node: n}
}

// less counts a block once less.
func (s *Shelf) less(at uint64) { sure(s.refs.Dec(block(at))) }

// block answers a block's number as the Refs take it: one that can't be such is none of theirs.
func block(at uint64) int {
	if at > lastBlock {
		return -1
	}
	return int(at)
}

// inserted is the way on which a key gets a value.
func inserted(s *Shelf, root, key, val uint64) way {
	w := down(s, root, key)
	at := w.take(key)
	x := w.leaf()
	x.node = knot.Insert(x.node, at, key, val)
	w.up(w.grown)
	return *w
}

// removed is the way on which a key is taken out.
func removed(s *Shelf, root, key uint64) way {
	w := down(s, root, key)
	w.take(key)
	w.up(w.shrunk)
	return *w
}

// take takes a key out of the leaf, if it is there, and answers where it stood, or is to be put.
func (w *way) take(key uint64) int {
	x := w.leaf()
	at, there := knot.Find(x.node, key)
	if there {
		w.old, w.there = x.node.Vals[at], true
		x.node = knot.Remove(x.node, at)
	}
	return at
}

// down is the way from a root to the leaf in which a key stands, or is to be put. It lowers the keys that stand for what that leaf is beneath, if the key is below them.
func down(s *Shelf, root, key uint64) *way {
	w := &way{shelf: s}
	x := s.shadow(root)
	for !x.node.Leaf {
		if len(w.steps) == deepest-1 { // x is the last one that may be
			panic(api.ErrPool)
		}
		x.place = knot.Child(x.node, key)
		next := s.shadow(x.node.Vals[x.place])
		x.set(x.place, min(key, x.node.Keys[x.place]), next.at)
		w.steps = append(w.steps, x)
		x = next
	}
	w.steps = append(w.steps, x)
	w.root = w.steps[0].at
	return w
}

// leaf answers the last node of the way.
func (w *way) leaf() *step { return &w.steps[len(w.steps)-1] }

// set lays another pair in the place of one.
func (x *step) set(at int, key, val uint64) { x.node = knot.Set(x.node, at, key, val) }

// up does what comes of each node, from the leaf on up to the root. What stood is changed at last, when nothing else can fail: behind ErrArg it stands.
func (w *way) up(come func(i int)) {
	for i := len(w.steps) - 1; i >= 0; i-- {
		come(i)
	}
	for _, x := range w.saves {
		if !node.May(x.node) {
			panic(api.ErrArg)
		}
	}
	for _, x := range w.saves {
		must(w.shelf.Save(x.at, x.node))
	}
}

// keep has a node saved, if it has changed.
func (w *way) keep(x step) {
	if !node.Same(x.node, x.was) {
		w.saves = append(w.saves, x)
	}
}

// grown is what comes of a node when something was put in: one with too many pairs is split.
func (w *way) grown(i int) {
	x := w.steps[i]
	if len(x.node.Keys) <= api.MaxKeys {
		w.keep(x)
		return
	}
	first, second := knot.Split(x.node)
	x.node = first
	w.keep(x)
	behind := sure(w.shelf.Make(second))
	if i == 0 {
		top := api.Node{Keys: []uint64{first.Keys[0], second.Keys[0]}, Vals: []uint64{x.at, behind}}
		w.root = sure(w.shelf.Make(top))
		return
	}
	ahead := &w.steps[i-1]
	ahead.node = knot.Insert(ahead.node, ahead.place+1, second.Keys[0], behind)
}

// shrunk is what comes of a node when something was taken out: one with too few pairs gets some of its neighbour's, or is joined with it.
func (w *way) shrunk(i int) {
	x := w.steps[i]
	if i == 0 {
		w.top(x)
		return
	}
	ahead := &w.steps[i-1]
	if len(x.node.Keys) > 0 { // only a tree that is not right has a leaf of one pair that is no root
		ahead.set(ahead.place, x.node.Keys[0], x.at)
	}
	at := neighbour(*ahead)
	if len(x.node.Keys) >= MinKeys || at < 0 {
		w.keep(x)
		return
	}
	y := w.shelf.shadow(ahead.node.Vals[at])
	ahead.set(at, ahead.node.Keys[at], y.at)
	if at < ahead.place {
		x, y, at = y, x, ahead.place
	}
	w.meet(ahead, x, y, at)
}

// neighbour answers the place of the neighbour of the one on the way: the one behind it; of the last one the one ahead. It is below 0, if there is none, as in a tree that is not right.
func neighbour(x step) int {
	if x.place+1 < len(x.node.Keys) {
		return x.place + 1
	}
	return x.place - 1
}

// meet joins two neighbours, or makes them even. The place is that of the second one in the node ahead.
func (w *way) meet(ahead *step, x, y step, at int) {
	if len(x.node.Keys)+len(y.node.Keys) <= api.MaxKeys {
		x.node = knot.Join(x.node, y.node)
		w.keep(x)
		w.shelf.less(y.at)
		ahead.node = knot.Remove(ahead.node, at)
		return
	}
	x.node, y.node = knot.Even(x.node, y.node)
	w.keep(x)
	w.keep(y)
	ahead.set(at, y.node.Keys[0], y.at)
}

// top is what comes of the root when something was taken out: one that is not needed any more goes.
func (w *way) top(x step) {
	switch {
	case x.node.Leaf && len(x.node.Keys) == 0:
		w.root = 0
	case !x.node.Leaf && len(x.node.Keys) == 1:
		w.root = x.node.Vals[0]
	default:
		w.keep(x)
		return
	}
	w.shelf.less(x.at)
}
