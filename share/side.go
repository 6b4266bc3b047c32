package share

import (
	"math"
	"slices"

	"cistern/api"
	"cistern/tree"
)

const (
	pair = math.MinInt + 1 // the level of a pair: each node's is above it
	end  = math.MinInt     // the level of what stands behind all else

	mostNodes = api.MaxBlocks // a right tree has no more: each of its nodes is another block
)

// item is what comes next of a tree: a pair, or a node with all that stands beneath it, the least key ahead.
type item struct {
	key, val uint64
	level    int // of a node of a right tree: how many stand one beneath the other from it on
}

// before answers whether an item comes ahead of another one. Of those that begin with the same key the higher one does: a node that is in both trees is met in both, then, ahead of all that stands beneath it.
func (i item) before(other item) bool {
	return i.key < other.key || i.key == other.key && i.level > other.level
}

// side is one of two trees that are gone through together.
type side struct {
	shelf  *tree.Shelf
	high   int    // so many nodes stand one beneath the other on its left edge
	ahead  []item // what is still to come of the tree, the next one last
	opened int    // so many nodes were
	e      api.Errno
}

// begin is a tree of which all is still to come. Its left edge tells how high it is.
func begin(s *tree.Shelf, root uint64) *side {
	d := &side{shelf: s}
	if root == 0 {
		return d
	}
	n := d.load(root, 1)
	for d.high = 1; d.e == api.OK && !n.Leaf; d.high++ {
		n = d.load(n.Vals[0], d.high+1)
	}
	if d.e == api.OK {
		d.ahead = []item{{n.Keys[0], root, d.high}}
	}
	return d
}

// next answers what comes next.
func (d *side) next() item {
	if len(d.ahead) == 0 {
		return item{math.MaxUint64, 0, end}
	}
	return d.ahead[len(d.ahead)-1]
}

// pass goes on behind what comes next.
func (d *side) pass() { d.ahead = d.ahead[:len(d.ahead)-1] }

// leave goes on behind what comes next, if it is a pair of that key.
func (d *side) leave(key uint64) {
	if i := d.next(); i.level == pair && i.key == key {
		d.pass()
	}
}

// open puts what a node has in the place of the node, which comes next.
func (d *side) open() {
	i := d.next()
	d.pass()
	if d.opened++; d.opened > mostNodes {
		d.e = api.ErrPool
		return
	}
	n := d.load(i.val, d.high-i.level+1)
	level := i.level - 1
	if n.Leaf {
		level = pair
	}
	for at, key := range slices.Backward(n.Keys) {
		d.ahead = append(d.ahead, item{key, n.Vals[at], level})
	}
}

// load answers the node at a block, so deep in the tree; one without keys, if the side ends by an error here.
func (d *side) load(at uint64, deep int) api.Node {
	if deep > deepest {
		d.e = api.ErrPool
		return api.Node{}
	}
	n, e := d.shelf.Load(at)
	d.e = e
	return n
}
