package share

import (
	"cistern/api"
	"cistern/tree"
)

// pointers are those to the blocks of Refs, of the roots and nodes that were followed.
type pointers struct {
	shelf *tree.Shelf
	often []int          // how often each block is pointed to
	high  map[uint64]int // of each node that was taken, by its block: how many stand one beneath the other from it on
}

// follow counts what points to a node that stands so deep, and takes the node, if it was not taken yet. It answers how many stand one beneath the other from it on.
func (p *pointers) follow(at uint64, deep int) (int, api.Errno) {
	if e := p.point(at); e != api.OK {
		return 0, e
	}
	high, taken := p.high[at]
	if !taken {
		return p.take(at, deep)
	}
	if deep-1+high > deepest {
		return 0, api.ErrPool
	}
	return high, api.OK
}

// take follows what a node points to. One that is met beneath itself is taken again and again, and too deep at last.
func (p *pointers) take(at uint64, deep int) (int, api.Errno) {
	if deep > deepest {
		return 0, api.ErrPool
	}
	n, e := p.shelf.Load(at)
	if e != api.OK {
		return 0, e
	}
	high := 1
	for _, val := range n.Vals {
		beneath := 0
		if n.Leaf {
			e = p.point(val)
		} else {
			beneath, e = p.follow(val, deep+1)
		}
		if e != api.OK {
			return 0, e
		}
		high = max(high, 1+beneath)
	}
	p.high[at] = high
	return high, api.OK
}

// point counts a block as pointed to once more.
func (p *pointers) point(at uint64) api.Errno {
	if at >= uint64(len(p.often)) {
		return api.ErrPool
	}
	p.often[at]++
	return api.OK
}
