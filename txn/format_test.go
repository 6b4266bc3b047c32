package txn_test

import (
	"bytes"
	"slices"
	"testing"

	"cistern/api"
	"cistern/disk"
	"cistern/txn"
)

// first: the superblock that Format lays.
func first(blocks int) api.Super { return api.Super{Gen: 1, Blocks: blocks, Dir: 0, Next: 1} }

// P15.1: no disk is ErrNil; one with fewer than 16 blocks is ErrArg, and stays as it is: its fuse does not burn, and its power is not asked for.
func TestFormatOfNoDisk(t *testing.T) {
	for _, d := range []*disk.Disk{nil, {}} {
		if e := txn.Format(d); e != api.ErrNil {
			t.Error("no disk:", e)
		}
	}
	for blocks := 1; blocks < 16; blocks++ {
		d := garbage(t, blocks, 1)
		write(t, d, 0, make([]byte, api.Block))
		ahead := content(t, d)
		d.Fuse(1)
		if e := txn.Format(d); e != api.ErrArg {
			t.Errorf("%d blocks: %d", blocks, e)
		}
		if d.Off() || d.Flight() != 4 || len(differ(ahead, content(t, d))) > 0 {
			t.Errorf("%d blocks: the disk is another one", blocks)
		}
		d.Barrier()
		if !d.Off() {
			t.Errorf("%d blocks: the fuse", blocks)
		}
		if e := txn.Format(d); e != api.ErrArg {
			t.Errorf("%d blocks, no power: %d", blocks, e)
		}
	}
	d := formatted(t, 16)
	d.Fuse(1)
	d.Barrier()
	if e := txn.Format(d); e != api.ErrOff {
		t.Error("no power:", e)
	}
}

// laidOver: what a disk that had these bytes has, once it is formatted.
func laidOver(t *testing.T, ahead [][]byte) [][]byte {
	t.Helper()
	l, blocks := slices.Clone(ahead), len(ahead)
	l[0], l[1] = make([]byte, api.Block), formOf(first(blocks))
	for n, part := range cut(empty(blocks)) {
		at := 2 + pagesOf(blocks) + n
		l[at] = page(t, part, at)
	}
	return l
}

// P15.1: what Format writes, over noughts, over bytes that say nothing, and over what is in flight; and that all of it lasts.
func TestFormat(t *testing.T) {
	for _, blocks := range sizes {
		pool := formatted(t, blocks)
		byHand(t, pool, api.Super{Gen: 12, Blocks: blocks, Dir: 0, Next: 9}, bytes.Repeat([]byte{3}, blocks))
		byHand(t, pool, api.Super{Gen: 13, Blocks: blocks, Dir: 1, Next: 9}, bytes.Repeat([]byte{4}, blocks))
		flight := garbage(t, blocks, 2)
		for at := range 3 {
			write(t, flight, at, noise(numbers(3)))
		}
		for name, d := range map[string]*disk.Disk{"noughts": anew(t, blocks), "garbage": garbage(t, blocks, 1), "a pool": pool, "in flight": flight} {
			want := laidOver(t, content(t, d))
			ok(t, "Format", txn.Format(d))
			if d.Flight() > 0 || d.Off() {
				t.Errorf("%d blocks, %s: something is in flight", blocks, name)
			}
			if l := differ(want, settled(t, d, nil)); len(l) > 0 {
				t.Errorf("%d blocks, %s: other bytes at %d", blocks, name, l)
			}
			p := opened(t, d, 1)
			if p.Super() != first(blocks) || !bytes.Equal(p.Refs().Counts(), empty(blocks)) || p.Free() != blocks-backOf(blocks) {
				t.Errorf("%d blocks, %s: %v, %d free", blocks, name, p.Super(), p.Free())
			}
		}
	}
}

// formatSteps: of each Write and Barrier of a Format how many sector writes are in flight ahead of it, and which blocks were written up to there.
func formatSteps(blocks int) (flight []int, written [][]int) {
	k := pagesOf(blocks)
	flight, written = []int{0, 4, 8}, [][]int{{}, {0}, {0, 1}}
	done := []int{0, 1}
	for n := range k {
		flight, written = append(flight, 4*n), append(written, slices.Clone(done))
		done = append(done, 2+k+n)
	}
	flight = append(flight, 4*k, 0, 4)
	return flight, append(written, done, done, done)
}

// P15.1: the power goes at each Write and Barrier of a Format: ErrOff; what was ahead of it was done, and nothing else.
func TestFormatStepByStep(t *testing.T) {
	for _, blocks := range []int{16, 240, 241, 1024} {
		flight, written := formatSteps(blocks)
		for n := range flight {
			d := garbage(t, blocks, 5)
			ahead := content(t, d)
			want := laidOver(t, ahead)
			d.Fuse(n + 1)
			if e := txn.Format(d); e != api.ErrOff || !d.Off() || d.Flight() != flight[n] {
				t.Fatalf("%d blocks, step %d: %d, %d in flight", blocks, n, e, d.Flight())
			}
			now := settled(t, d, all(d.Flight()))
			if l := differ(ahead, now); !slices.Equal(l, written[n]) {
				t.Fatalf("%d blocks, step %d: %d were written, not %d", blocks, n, l, written[n])
			}
			last := n == len(flight)-1
			for _, at := range written[n] {
				blank := at < 2 && !(last && at == 1)
				if blank && !bytes.Equal(now[at], make([]byte, api.Block)) || !blank && !bytes.Equal(now[at], want[at]) {
					t.Fatalf("%d blocks, step %d: other bytes at %d", blocks, n, at)
				}
			}
		}
		d := garbage(t, blocks, 5)
		d.Fuse(len(flight) + 1)
		ok(t, "Format", txn.Format(d))
		d.Barrier()
		if !d.Off() {
			t.Errorf("%d blocks: more steps, or fewer", blocks)
		}
	}
}

// P15.1: Format over a pool, and the power goes: behind its first Barrier there is the new pool, or none; ahead of it what the slots tell.
func TestFormatOverAPool(t *testing.T) {
	r := numbers(6)
	for range 3000 {
		blocks := []int{16, 17, 241}[r.IntN(3)]
		d := formatted(t, blocks)
		old := []api.Super{{Gen: 40, Blocks: blocks, Next: 7}, {Gen: 41, Blocks: blocks, Next: 8}}
		for _, s := range old {
			byHand(t, d, s, empty(blocks))
		}
		flight, _ := formatSteps(blocks)
		n := r.IntN(len(flight))
		d.Fuse(n + 1)
		if e := txn.Format(d); e != api.ErrOff {
			t.Fatal("Format:", e)
		}
		d.Crash(picked(r, d.Flight()))
		p, e := txn.Open(d, 1)
		switch {
		case n == 0:
			if e != api.OK || p.Super() != old[1] {
				t.Fatalf("ahead of all: %d, %v", e, p.Super())
			}
		case n < 3:
			if e != api.ErrPool && (e != api.OK || !slices.Contains(old, p.Super())) {
				t.Fatalf("step %d: %d, %v", n, e, p.Super())
			}
		case n < len(flight)-1:
			if e != api.ErrPool {
				t.Fatalf("step %d: %d", n, e)
			}
		case e != api.ErrPool && (e != api.OK || p.Super() != first(blocks) || !bytes.Equal(p.Refs().Counts(), empty(blocks))):
			t.Fatalf("step %d: %d", n, e)
		}
		ok(t, "Format", txn.Format(d))
		if p := opened(t, d, 1); p.Super() != first(blocks) {
			t.Fatal("Format anew:", p.Super())
		}
	}
}
