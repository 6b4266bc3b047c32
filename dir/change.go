package dir

import (
	"cistern/api"
	"cistern/share"
	"cistern/stamp"
	"cistern/tree"
	"cistern/txn"
)

// change is what happens to a directory when the entry of one volume is put in, or taken out. Nothing that stood is changed in place: the old directory is held till the new one stands.
type change struct {
	txn    *txn.Txn
	volume api.Volume // of one that is taken out the Id alone
	entry  int        // the block of the new entry
	dir    uint64     // the root of the new directory
	old    uint64     // the block of the entry that stood there
	stood  bool       // whether one did
}

// putIn puts the volume's entry in, in the place of the one of its Id, if there is one.
func (c *change) putIn() api.Errno {
	return inTurn(c.hold, c.layEntry, c.insert, c.dropEntry, c.turn)
}

// takeOut takes the entry of the volume's Id out.
func (c *change) takeOut() api.Errno {
	return inTurn(c.hold, c.remove, c.dropEntry, c.turn)
}

// inTurn goes through steps until the first error, and answers it.
func inTurn(steps ...func() api.Errno) api.Errno {
	for _, step := range steps {
		if e := step(); e != api.OK {
			return e
		}
	}
	return api.OK
}

// hold holds the directory that stands once more.
func (c *change) hold() api.Errno {
	return share.Clone(c.txn.Shelf(), c.txn.Refs(), c.txn.Super().Dir)
}

// layEntry puts the new entry into a block of its own.
func (c *change) layEntry() api.Errno {
	payload, e := Put(c.volume)
	if e != api.OK {
		return e
	}
	c.entry, e = c.txn.Refs().Alloc()
	if e != api.OK {
		return e
	}
	b, e := stamp.Seal(payload, c.entry, api.KindEntry)
	if e != api.OK {
		return e
	}
	return c.txn.Cache().Put(c.entry, b)
}

// insert makes the directory that has the new entry.
func (c *change) insert() (e api.Errno) {
	c.dir, c.old, c.stood, e = tree.Insert(c.txn.Shelf(), c.txn.Super().Dir, c.volume.Id, uint64(c.entry))
	return e
}

// remove makes the directory that has the entry no more.
func (c *change) remove() (e api.Errno) {
	c.dir, c.old, c.stood, e = tree.Remove(c.txn.Shelf(), c.txn.Super().Dir, c.volume.Id)
	return e
}

// dropEntry counts the block of the old entry once less.
func (c *change) dropEntry() api.Errno {
	if !c.stood {
		return api.OK
	}
	_, e := c.txn.Refs().Dec(block(c.old))
	return e
}

// turn makes the new directory the pool's, and lets the old one go.
func (c *change) turn() api.Errno {
	old := c.txn.Super().Dir
	if e := c.txn.SetDir(c.dir); e != api.OK {
		return e
	}
	return share.Drop(c.txn.Shelf(), c.txn.Refs(), old)
}
