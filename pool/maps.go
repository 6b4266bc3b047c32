package pool

import (
	"math"

	"cistern/api"
	"cistern/dir"
	"cistern/share"
	"cistern/stretch"
	"cistern/tree"
)

// hold holds a map once more.
func (p *Pool) hold(root uint64) api.Errno {
	return share.Clone(p.txn.Shelf(), p.txn.Refs(), root)
}

// letGo holds a map once less.
func (p *Pool) letGo(root uint64) api.Errno {
	return share.Drop(p.txn.Shelf(), p.txn.Refs(), root)
}

// remap puts a volume in the place of the one of its number, with a map that is made of the one that it has. That one is held till the other one stands.
func (p *Pool) remap(v api.Volume, do func(root uint64) (uint64, api.Errno)) api.Errno {
	old := v.Root
	if e := p.hold(old); e != api.OK {
		return e
	}
	root, e := do(old)
	if e != api.OK {
		return e
	}
	v.Root = root
	if e := dir.Set(p.txn, v); e != api.OK {
		return e
	}
	return p.letGo(old)
}

// mapped answers the bytes of the block to which a map maps one of a volume's, and whether there is one.
func (p *Pool) mapped(root, block uint64) ([]byte, bool, api.Errno) {
	at, there, e := tree.Lookup(p.txn.Shelf(), root, block)
	if e != api.OK || !there {
		return nil, false, e
	}
	b, e := p.txn.Cache().Get(place(at))
	return b, e == api.OK, e
}

// some answers whether a map maps any block, from one on and ahead of another.
func (p *Pool) some(root, from, to uint64) (bool, api.Errno) {
	l, e := stretch.Each(p.txn.Shelf(), root, from, to, 1)
	return len(l) > 0, e
}

// lay lays bytes, and maps a block to them; it answers the map then.
func (p *Pool) lay(root, block uint64, b []byte) (uint64, api.Errno) {
	at, e := p.txn.Refs().Alloc()
	if e != api.OK {
		return 0, e
	}
	if e := p.txn.Cache().Put(at, b); e != api.OK {
		return 0, e
	}
	root, old, there, e := tree.Insert(p.txn.Shelf(), root, block, uint64(at))
	if e == api.OK && there {
		_, e = p.txn.Refs().Dec(place(old))
	}
	return root, e
}

// without takes blocks out of a map, from one on and ahead of another; it answers the map then.
func (p *Pool) without(root, from, to uint64) (uint64, api.Errno) {
	root, _, e := stretch.Clear(p.txn.Shelf(), p.txn.Refs(), root, from, to)
	return root, e
}

// cut takes out of a map what stands behind the end of a volume of that size, within its last block, too; it answers the map then.
func (p *Pool) cut(root, size uint64) (uint64, api.Errno) {
	root, e := p.without(root, blocks(size), math.MaxUint64)
	wanted := size % api.Block
	if e != api.OK || wanted == 0 {
		return root, e
	}
	last := blocks(size) - 1
	b, there, e := p.mapped(root, last)
	if e != api.OK || !there {
		return root, e
	}
	clear(b[wanted:])
	return p.lay(root, last, b)
}

// place answers a block's number as the layers below take it: one that can't be such is none of theirs.
func place(at uint64) int {
	if at > math.MaxInt32 {
		return -1
	}
	return int(at)
}
