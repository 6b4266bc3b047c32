package dir

import (
	"math"

	"cistern/api"
	"cistern/stamp"
	"cistern/stretch"
	"cistern/txn"
)

// walk goes through the volumes of a pool, and ends at the first error.
type walk struct {
	txn *txn.Txn
	e   api.Errno
}

// rising hands on the volumes, their Ids rising, as long as more are asked for. Nodes and entries behind the last one that is handed on are not looked at.
func (w *walk) rising(yield func(api.Volume) bool) {
	for from := uint64(0); ; {
		v, there, e := next(w.txn, from)
		w.e = e
		if !there || !yield(v) {
			return
		}
		from = v.Id + 1
	}
}

// next answers the volume with the least Id that is not below one, and whether there is such a volume.
func next(t *txn.Txn, from uint64) (api.Volume, bool, api.Errno) {
	p, there, e := stretch.Next(t.Shelf(), t.Super().Dir, from)
	if e != api.OK || !there {
		return api.Volume{}, false, e
	}
	v, e := read(t, p.Key, p.Val)
	return v, e == api.OK, e
}

// read answers the volume of an Id whose entry stands at a block.
func read(t *txn.Txn, id, at uint64) (api.Volume, api.Errno) {
	b, e := t.Cache().Get(block(at))
	if e != api.OK {
		return api.Volume{}, e
	}
	b, e = stamp.Open(b, block(at), api.KindEntry)
	if e != api.OK {
		return api.Volume{}, e
	}
	v, e := Take(b)
	switch {
	case e != api.OK:
		return api.Volume{}, e
	case v.Id != id:
		return api.Volume{}, api.ErrPool
	}
	return v, api.OK
}

// block answers a block's number as the layers below take it: one that can't be such is none of theirs.
func block(at uint64) int {
	if at > math.MaxInt32 {
		return -1
	}
	return int(at)
}
