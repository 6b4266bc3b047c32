package txn_test

import (
	"bytes"
	"encoding/binary"
	"math/rand/v2"
	"testing"

	"cistern/api"
	"cistern/cache"
	"cistern/disk"
	"cistern/stamp"
	"cistern/txn"
)

// greatestGen is the greatest generation, and the greatest Next.
const greatestGen = 1<<62 - 1

// sizes: disks whose counts have a page that is not full, just full, and one page more.
var sizes = []int{16, 17, 60, 239, 240, 241, 479, 480, 481, 720, 721, 960, 961, 1023, 1024}

// numbers: the same pseudo-random numbers in each run.
func numbers(seed uint64) *rand.Rand { return rand.New(rand.NewPCG(15, seed)) }

// ok: that what was called told no error.
func ok(t *testing.T, what string, e api.Errno) {
	t.Helper()
	if e != api.OK {
		t.Fatalf("%s: %d", what, e)
	}
}

// anew: a disk of noughts.
func anew(t *testing.T, blocks int) *disk.Disk {
	t.Helper()
	d, e := disk.New(blocks)
	ok(t, "disk.New", e)
	return d
}

// garbage: a disk of bytes that say nothing; they last.
func garbage(t *testing.T, blocks int, seed uint64) *disk.Disk {
	t.Helper()
	d, r := anew(t, blocks), numbers(seed)
	for at := range blocks {
		write(t, d, at, noise(r))
	}
	ok(t, "Barrier", d.Barrier())
	return d
}

// noise: a block of bytes that say nothing.
func noise(r *rand.Rand) []byte {
	b := make([]byte, api.Block)
	for i := range b {
		b[i] = byte(r.IntN(256))
	}
	return b
}

// formatted: a disk of an empty pool.
func formatted(t *testing.T, blocks int) *disk.Disk {
	t.Helper()
	d := anew(t, blocks)
	ok(t, "Format", txn.Format(d))
	return d
}

// opened: the pool on a disk.
func opened(t *testing.T, d *disk.Disk, room int) *txn.Txn {
	t.Helper()
	p, e := txn.Open(d, room)
	ok(t, "Open", e)
	return p
}

func write(t *testing.T, d *disk.Disk, at int, b []byte) {
	t.Helper()
	ok(t, "Write", d.Write(at, b))
}

func read(t *testing.T, d *disk.Disk, at int) []byte {
	t.Helper()
	b, e := d.Read(at)
	ok(t, "Read", e)
	return b
}

// settled: what all blocks of a disk have, if the power goes now, and does that to what is in flight.
func settled(t *testing.T, d *disk.Disk, picks []byte) [][]byte {
	t.Helper()
	d = d.Copy()
	d.Crash(picks)
	return content(t, d)
}

// content: what all blocks of a disk have now.
func content(t *testing.T, d *disk.Disk) [][]byte {
	t.Helper()
	var l [][]byte
	for at := range d.Blocks() {
		l = append(l, read(t, d, at))
	}
	return l
}

// all: picks by which so many sector writes last.
func all(n int) []byte { return bytes.Repeat([]byte{1}, n) }

// differ: the places at which two disks have other bytes.
func differ(a, b [][]byte) []int {
	var l []int
	for at := range a {
		if !bytes.Equal(a[at], b[at]) {
			l = append(l, at)
		}
	}
	return l
}

// pagesOf: how many pages so many counts have.
func pagesOf(blocks int) int { return (blocks + 239) / 240 }

// backOf: how many blocks are kept back.
func backOf(blocks int) int { return 2 + 2*pagesOf(blocks) }

// areaOf: where the pages of a generation begin.
func areaOf(gen uint64, blocks int) int {
	if gen%2 == 0 {
		return 2
	}
	return 2 + pagesOf(blocks)
}

// formOf: a superblock's bytes, by the words of chapter 14, whether it may be or not; as a block, with noughts behind.
func formOf(s api.Super) []byte {
	b := []byte("cist")
	for _, n := range []uint64{s.Gen, uint64(s.Blocks), s.Dir, s.Next} {
		b = binary.BigEndian.AppendUint64(b, n)
	}
	b = append(b, make([]byte, 20)...)
	b = binary.BigEndian.AppendUint64(b, s.Gen)
	return append(b, make([]byte, 192)...)
}

// page: one page of counts, as a block.
func page(t *testing.T, counts []byte, at int) []byte {
	t.Helper()
	b, e := stamp.Seal(counts, at, api.KindPage)
	ok(t, "Seal", e)
	return b
}

// cut: counts, page by page.
func cut(counts []byte) [][]byte {
	var l [][]byte
	for len(counts) > 240 {
		l, counts = append(l, counts[:240]), counts[240:]
	}
	return append(l, counts)
}

// empty: the counts of a pool in which nothing stands.
func empty(blocks int) []byte {
	counts := make([]byte, blocks)
	for at := range backOf(blocks) {
		counts[at] = 1
	}
	return counts
}

// byHand: a commit is written to a disk, and lasts; package txn is not asked.
func byHand(t *testing.T, d *disk.Disk, s api.Super, counts []byte) {
	t.Helper()
	for n, part := range cut(counts) {
		at := areaOf(s.Gen, s.Blocks) + n
		write(t, d, at, page(t, part, at))
	}
	write(t, d, int(s.Gen%2), formOf(s))
	ok(t, "Barrier", d.Barrier())
}

// lay: a commit is laid, step by step, by the words of chapter 15.
func lay(t *testing.T, d *disk.Disk, c *cache.Cache, s api.Super, counts []byte) api.Errno {
	t.Helper()
	for n, part := range cut(counts) {
		at := areaOf(s.Gen, s.Blocks) + n
		if e := c.Put(at, page(t, part, at)); e != api.OK {
			return e
		}
	}
	if e := c.Flush(); e != api.OK {
		return e
	}
	if e := d.Barrier(); e != api.OK {
		return e
	}
	if e := c.Put(int(s.Gen%2), formOf(s)); e != api.OK {
		return e
	}
	if e := c.Flush(); e != api.OK {
		return e
	}
	return d.Barrier()
}

// state: all that a pool tells: what stands now, its counts, and what stands in the blocks that are counted, but for those that are kept back.
type state struct {
	super  api.Super
	counts []byte
	blocks map[int]string
}

// stateOf: that of a pool.
func stateOf(t *testing.T, p *txn.Txn) state {
	t.Helper()
	x := state{p.Super(), p.Refs().Counts(), make(map[int]string)}
	for at, count := range x.counts {
		if count > 0 && at >= backOf(len(x.counts)) {
			b, e := p.Cache().Get(at)
			ok(t, "Get", e)
			x.blocks[at] = string(b)
		}
	}
	return x
}

// same: whether two states are one.
func (x state) same(y state) bool {
	if x.super != y.super || !bytes.Equal(x.counts, y.counts) || len(x.blocks) != len(y.blocks) {
		return false
	}
	for at, b := range x.blocks {
		if y.blocks[at] != b {
			return false
		}
	}
	return true
}
