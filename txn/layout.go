package txn

import (
	"cistern/api"
	"cistern/cache"
	"cistern/counts"
	"cistern/disk"
	"cistern/stamp"
	"cistern/super"
)

// leastBlocks is how many blocks a disk of a pool has at least.
const leastBlocks = 16

// slots is how many superblocks take turns: they stand in the disk's first blocks. As many areas of pages stand behind.
const slots = 2

// commit is a commit that is to be laid.
type commit struct {
	disk   *disk.Disk
	cache  *cache.Cache
	super  api.Super
	counts []byte
}

// lay lays the commit. The barrier ahead of the superblock is what a pool lives by: all that it speaks of lasts ahead of it.
func (c commit) lay() api.Errno {
	return inTurn(c.putPages, c.cache.Flush, c.disk.Barrier, c.putSuper, c.cache.Flush, c.disk.Barrier)
}

// clear writes noughts to both slots.
func (c commit) clear() api.Errno {
	for slot := range slots {
		if e := c.disk.Write(slot, make([]byte, api.Block)); e != api.OK {
			return e
		}
	}
	return api.OK
}

// putPages puts the pages of the counts into the cache, at the commit's area.
func (c commit) putPages() api.Errno {
	from := area(c.super)
	for n, page := range counts.Put(c.counts) {
		b, e := stamp.Seal(page, from+n, api.KindPage)
		if e != api.OK {
			return e
		}
		if e := c.cache.Put(from+n, b); e != api.OK {
			return e
		}
	}
	return api.OK
}

// putSuper puts the superblock into the cache, at its slot.
func (c commit) putSuper() api.Errno {
	form, e := super.Put(c.super)
	if e != api.OK {
		return e
	}
	b := make([]byte, api.Block)
	copy(b, form)
	return c.cache.Put(turn(c.super), b)
}

// inTurn goes through steps, up to the first one that fails.
func inTurn(steps ...func() api.Errno) api.Errno {
	for _, step := range steps {
		if e := step(); e != api.OK {
			return e
		}
	}
	return api.OK
}

// turn answers which slot, and which area, a commit is in.
func turn(s api.Super) int { return int(s.Gen % slots) }

// area answers where a commit's pages begin.
func area(s api.Super) int { return slots + turn(s)*counts.Pages(s.Blocks) }

// keptBack answers how many blocks, from 0 on, are for slots and pages alone.
func keptBack(blocks int) int { return slots + slots*counts.Pages(blocks) }

// untouched answers the counts of a pool in which nothing stands but what is kept back.
func untouched(blocks int) []byte {
	l := make([]byte, blocks)
	for at := range keptBack(blocks) {
		l[at] = 1
	}
	return l
}

// newest answers what the last commit on a disk says, and its counts; false, if the disk has none.
func newest(d *disk.Disk) (api.Super, []byte, bool) {
	s, _, e := super.Choose(sector(d, 0), sector(d, 1))
	if e != api.OK || s.Blocks != d.Blocks() {
		return api.Super{}, nil, false
	}
	counted, ok := countsOf(d, s)
	if !ok || !holds(counted, s) {
		return api.Super{}, nil, false
	}
	return s, counted, true
}

// sector answers a slot's superblock; of a slot that is not there no bytes.
func sector(d *disk.Disk, slot int) []byte {
	b, e := d.Read(slot)
	if e != api.OK {
		return nil
	}
	return b[:api.Sector]
}

// countsOf answers the counts of a commit. They are read off the disk itself: the cache of the pool holds nothing yet.
func countsOf(d *disk.Disk, s api.Super) ([]byte, bool) {
	var pages [][]byte
	for n := range counts.Pages(s.Blocks) {
		at := area(s) + n
		b, e := d.Read(at)
		if e != api.OK {
			return nil, false
		}
		page, e := stamp.Open(b, at, api.KindPage)
		if e != api.OK {
			return nil, false
		}
		pages = append(pages, page)
	}
	l, e := counts.Take(pages, s.Blocks)
	return l, e == api.OK
}

// holds answers whether all is counted that a pool cannot be without: what is kept back, and the directory's root, if there is one.
func holds(counted []byte, s api.Super) bool {
	for _, count := range counted[:keptBack(s.Blocks)] {
		if count == 0 {
			return false
		}
	}
	return s.Dir == 0 || counted[s.Dir] > 0
}
