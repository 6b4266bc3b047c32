package txn_test

import (
	"bytes"
	"math/rand/v2"
	"slices"
	"testing"

	"cistern/api"
	"cistern/disk"
	"cistern/txn"
)

// changed: a pool in which something was changed, always the same for the same seed: blocks are handed out, and put into the cache, and got; others are counted once more, or once less; Dir and Next are set.
func changed(t *testing.T, d *disk.Disk, room int, seed uint64) *txn.Txn {
	t.Helper()
	r, p := numbers(seed), opened(t, d, room)
	for range r.IntN(30) {
		change(t, r, p)
	}
	return p
}

// change: one change of a pool.
func change(t *testing.T, r *rand.Rand, p *txn.Txn) {
	t.Helper()
	blocks := p.Super().Blocks
	at := r.IntN(blocks-backOf(blocks)) + backOf(blocks)
	switch r.IntN(6) {
	case 0, 1:
		if at, e := p.Refs().Alloc(); e == api.OK {
			ok(t, "Put", p.Cache().Put(at, noise(r)))
		}
	case 2:
		p.Refs().Inc(at)
	case 3:
		if p.Super().Dir != uint64(at) { // a pool cannot be without its directory's root
			p.Refs().Dec(at)
		}
	case 4:
		_, e := p.Cache().Get(r.IntN(blocks))
		ok(t, "Get", e)
	case 5:
		ok(t, "SetNext", p.SetNext(r.Uint64N(greatestGen)+1))
		if p.Refs().Count(at) > 0 {
			ok(t, "SetDir", p.SetDir(uint64(at)))
		}
	}
}

// ready: a disk of garbage on which a pool stands that had some commits.
func ready(t *testing.T, blocks int, seed uint64) *disk.Disk {
	t.Helper()
	d := garbage(t, blocks, seed)
	gen := []uint64{1, 2, 255, 256, 1<<32 - 1, greatestGen - 1}[seed%6]
	byHand(t, d, api.Super{Gen: gen, Blocks: blocks, Dir: 1, Next: seed + 1}, some(blocks, seed))
	return d
}

// P15.4: with the power going at each Write and Barrier of a Commit, and with no such thing, it does just what the chapter's steps do: to the disk, and to the cache; and tells the same.
func TestCommitStepByStep(t *testing.T) {
	for i, blocks := range []int{16, 17, 60, 239, 240, 241, 480, 481, 1024} {
		for j, room := range []int{1, 2, 3, 5, 20, api.MaxBlocks} {
			seed := uint64(10*i + j)
			for n := 1; ; n++ {
				if n > 100 {
					t.Fatal("a commit that does not end")
				}
				if !steppedAs(t, ready(t, blocks, seed), room, seed, n) {
					break
				}
			}
		}
	}
}

// steppedAs: that a Commit with a fuse of n does what the chapter's steps do; and whether the fuse was burnt.
func steppedAs(t *testing.T, d *disk.Disk, room int, seed uint64, n int) bool {
	t.Helper()
	x := d.Copy()
	p, q := changed(t, d, room, seed), changed(t, x, room, seed)
	counts, s := q.Refs().Counts(), q.Super()
	s.Gen++
	d.Fuse(n)
	x.Fuse(n)
	got, want := p.Commit(), lay(t, x, q.Cache(), s, counts)
	if got != want || d.Off() != x.Off() || d.Flight() != x.Flight() || p.Over() != (got != api.OK) {
		t.Fatalf("seed %d, fuse %d: %d, not %d; %d in flight, not %d", seed, n, got, want, d.Flight(), x.Flight())
	}
	if !slices.Equal(p.Cache().Dirty(), q.Cache().Dirty()) || p.Cache().Held() != q.Cache().Held() {
		t.Fatalf("seed %d, fuse %d: %d are dirty, not %d; %d held, not %d", seed, n, p.Cache().Dirty(), q.Cache().Dirty(), p.Cache().Held(), q.Cache().Held())
	}
	r := numbers(seed)
	for _, picks := range [][]byte{nil, all(d.Flight()), picked(r, d.Flight()), picked(r, d.Flight())} {
		if l := differ(settled(t, d, picks), settled(t, x, picks)); len(l) > 0 {
			t.Fatalf("seed %d, fuse %d: other bytes at %d", seed, n, l)
		}
	}
	told(t, p, s, counts, got)
	return got != api.OK
}

// told: what a pool tells behind a Commit: it has that superblock now, or the old one, if it failed; and blocks are fresh no more, if it did not.
func told(t *testing.T, p *txn.Txn, s api.Super, counts []byte, e api.Errno) {
	t.Helper()
	fresh := false
	for at := range counts {
		fresh = fresh || p.Refs().Fresh(at)
	}
	if e != api.OK {
		s.Gen--
	} else if fresh || p.Free() != bytes.Count(counts, []byte{0}) {
		t.Fatalf("Refs.Commit was not called: %d free", p.Free())
	}
	if p.Super() != s || !bytes.Equal(p.Refs().Counts(), counts) {
		t.Fatalf("behind Commit (%d): %v, not %v", e, p.Super(), s)
	}
}

// P15.4: where commits lie, by the chapter's words, in numbers: slot and area take turns, what is dirty goes ahead of the first Barrier by rising places, and the slot between both.
func TestCommitInNumbers(t *testing.T) {
	for _, x := range []struct {
		blocks int
		gen    uint64 // that is laid
		writes []int  // the blocks that are written ahead of the first Barrier, if 20 are handed out, and 6 is changed
	}{
		{60, 2, []int{2, 4, 5}},
		{60, 3, []int{3, 4, 5}},
		{240, 2, []int{2, 4, 5}},
		{241, 2, []int{2, 3, 6, 7}},
		{241, 3, []int{4, 5, 6, 7}},
		{1024, 4, []int{2, 3, 4, 5, 6, 12, 13}},
		{1024, 5, []int{7, 8, 9, 10, 11, 12, 13}},
	} {
		for n := range len(x.writes) + 3 {
			d := garbage(t, x.blocks, 1)
			byHand(t, d, api.Super{Gen: x.gen - 1, Blocks: x.blocks, Next: 1}, empty(x.blocks))
			write(t, d, int(x.gen%2), noise(numbers(9))) // so that noughts are seen
			ok(t, "Barrier", d.Barrier())
			p, r := opened(t, d, 30), numbers(8)
			for range 2 {
				at, e := p.Refs().Alloc()
				ok(t, "Alloc", e)
				ok(t, "Put", p.Cache().Put(at, noise(r)))
			}
			ahead := content(t, d)
			d.Fuse(n + 1)
			if e := p.Commit(); e != api.ErrOff {
				t.Fatal("Commit:", e)
			}
			w := len(x.writes)
			flight, want := min(n, w)*4, x.writes[:min(n, w)]
			if n > w {
				flight = 4 * (n - w - 1) // the first Barrier is passed
			}
			if n == w+2 {
				want = append([]int{int(x.gen % 2)}, x.writes...)
			}
			if d.Flight() != flight {
				t.Errorf("%d blocks, Gen %d, fuse %d: %d in flight, not %d", x.blocks, x.gen, n+1, d.Flight(), flight)
			}
			if l := differ(ahead, settled(t, d, all(flight))); !slices.Equal(l, want) {
				t.Errorf("%d blocks, Gen %d, fuse %d: %d are written, not %d", x.blocks, x.gen, n+1, l, want)
			}
		}
	}
}

// P15.4: what a row of Commits leaves: each is the last one, as the disk tells it; nothing is in flight; the pool goes on.
func TestCommitsInARow(t *testing.T) {
	for _, blocks := range []int{16, 60, 241, 1024} {
		d := formatted(t, blocks)
		r, p := numbers(uint64(blocks)), opened(t, d, 3)
		for gen := uint64(2); gen < 40; gen++ {
			for range r.IntN(6) {
				change(t, r, p)
			}
			want := p.Super()
			want.Gen = gen
			ok(t, "Commit", p.Commit())
			if d.Flight() > 0 || p.Super() != want || p.Over() {
				t.Fatalf("Gen %d: %v, %d in flight", gen, p.Super(), d.Flight())
			}
			counts := p.Refs().Counts()
			if q := opened(t, d, 1); q.Super() != want || !bytes.Equal(q.Refs().Counts(), counts) {
				t.Fatalf("Gen %d: on the disk %v", gen, q.Super())
			}
			now := content(t, d)
			if !bytes.Equal(now[gen%2], formOf(want)) {
				t.Fatalf("Gen %d: the slot", gen)
			}
			for n, part := range cut(counts) {
				at := areaOf(gen, blocks) + n
				if !bytes.Equal(now[at], page(t, part, at)) {
					t.Fatalf("Gen %d: the page at %d", gen, at)
				}
			}
		}
	}
}
