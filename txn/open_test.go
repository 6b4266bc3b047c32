package txn_test

import (
	"bytes"
	"math"
	"slices"
	"testing"

	"cistern/api"
	"cistern/disk"
	"cistern/stamp"
	"cistern/txn"
)

// refused: that a disk is not opened, that nothing is told but the error, and that the disk stays as it is: its fuse does not burn.
func refused(t *testing.T, what string, d *disk.Disk, room int, want api.Errno) {
	t.Helper()
	ahead, flight := content(t, d), d.Flight()
	d.Fuse(1)
	p, e := txn.Open(d, room)
	if e != want || p != nil {
		t.Errorf("%s: %d, not %d", what, e, want)
	}
	d.Fuse(0)
	if len(differ(ahead, content(t, d))) > 0 || d.Flight() != flight || d.Off() {
		t.Errorf("%s: the disk is another one", what)
	}
}

// some: counts of a pool in which all is counted somehow, what is kept back at least once.
func some(blocks int, seed uint64) []byte {
	counts, r := make([]byte, blocks), numbers(seed)
	for at := range counts {
		if counts[at] = byte(r.IntN(256)); counts[at] == 0 && at < backOf(blocks) {
			counts[at] = 1
		}
	}
	return counts
}

// P15.2: no disk goes ahead of all, then no power, then the room, then what the disk has.
func TestOpenErrorsInOrder(t *testing.T) {
	rooms := []int{0, -1, api.MaxBlocks + 1, math.MaxInt, math.MinInt}
	for _, room := range append(rooms, 1, api.MaxBlocks) {
		for _, d := range []*disk.Disk{nil, {}} {
			if p, e := txn.Open(d, room); e != api.ErrNil || p != nil {
				t.Error("no disk:", e)
			}
		}
		for _, d := range []*disk.Disk{anew(t, 1), anew(t, 16), formatted(t, 16)} {
			d.Fuse(1)
			d.Barrier()
			if p, e := txn.Open(d, room); e != api.ErrOff || p != nil {
				t.Error("no power:", e)
			}
		}
	}
	for _, room := range rooms {
		refused(t, "room, a pool", formatted(t, 16), room, api.ErrArg)
		refused(t, "room, noughts", anew(t, 16), room, api.ErrArg)
		refused(t, "room, one block", anew(t, 1), room, api.ErrArg)
	}
	for blocks := 1; blocks <= 17; blocks++ {
		refused(t, "noughts", anew(t, blocks), 1, api.ErrPool)
		refused(t, "garbage", garbage(t, blocks, 1), api.MaxBlocks, api.ErrPool)
	}
	refused(t, "garbage", garbage(t, 1024, 1), 7, api.ErrPool)
}

// P15.2: a disk that has no slot 1, or is too small for what its slot tells.
func TestOpenOfSmallDisks(t *testing.T) {
	for blocks := 1; blocks < 16; blocks++ {
		for _, said := range []int{blocks, 15, 16, 17} {
			d := anew(t, blocks)
			write(t, d, 0, formOf(api.Super{Gen: 2, Blocks: said, Next: 1}))
			refused(t, "a small disk", d, 1, api.ErrPool)
			if blocks > 1 {
				write(t, d, 1, formOf(api.Super{Gen: 3, Blocks: said, Next: 1}))
				refused(t, "a small disk", d, 1, api.ErrPool)
			}
		}
	}
}

// P15.2: the pool that is opened is that of the commit: its superblock, Refs of its counts, a new cache of that room, a shelf over both; the disk stays as it is.
func TestOpen(t *testing.T) {
	for i, blocks := range sizes {
		for j, gen := range []uint64{1, 2, 3, 255, 256, 1 << 32, greatestGen - 1, greatestGen} {
			d := garbage(t, blocks, uint64(i))
			counts := some(blocks, uint64(100*i+j))
			s := api.Super{Gen: gen, Blocks: blocks, Dir: uint64(blocks - 1), Next: []uint64{1, 77, greatestGen}[j%3]}
			counts[blocks-1] = byte(1 + 254*(j%2))
			byHand(t, d, s, counts)
			write(t, d, backOf(blocks), make([]byte, api.Block)) // this one is in flight
			room := []int{1, 2, 9, api.MaxBlocks}[j%4]
			looked(t, d, room, s, counts)
		}
	}
}

// looked: that a disk is opened as the pool of that commit.
func looked(t *testing.T, d *disk.Disk, room int, s api.Super, counts []byte) {
	t.Helper()
	ahead, flight := content(t, d), d.Flight()
	d.Fuse(1)
	p := opened(t, d, room)
	d.Fuse(0)
	if p.Over() || p.Super() != s || !bytes.Equal(p.Refs().Counts(), counts) {
		t.Fatalf("%v is opened as %v", s, p.Super())
	}
	free := bytes.Count(counts, []byte{0})
	if p.Free() != free || p.Refs().Free() != free {
		t.Fatalf("%v: %d free, not %d", s, p.Free(), free)
	}
	if p.Cache().Held() != 0 || len(differ(ahead, content(t, d))) > 0 || d.Flight() != flight {
		t.Fatalf("%v: the disk is another one, or something is held", s)
	}
	for at := range s.Blocks {
		b, e := p.Cache().Get(at)
		if e != api.OK || !bytes.Equal(b, ahead[at]) || p.Cache().Held() != min(at+1, room) {
			t.Fatalf("%v: the cache at %d: %d, %d held", s, at, e, p.Cache().Held())
		}
		if p.Refs().Fresh(at) {
			t.Fatalf("%v: %d is fresh", s, at)
		}
	}
	if free > 0 {
		shelved(t, p, slices.Index(counts, 0))
	}
}

// shelved: that a pool's shelf stands on its Refs and its cache, and the cache on its disk.
func shelved(t *testing.T, p *txn.Txn, least int) {
	t.Helper()
	at, e := p.Shelf().Make(api.Node{Leaf: true, Keys: []uint64{1}, Vals: []uint64{2}})
	if e != api.OK || at != uint64(least) || p.Refs().Count(least) != 1 || !p.Refs().Fresh(least) {
		t.Fatalf("Make: %d, %d, not %d", at, e, least)
	}
	if !slices.Equal(p.Cache().Dirty(), []int{least}) {
		t.Fatal("what the shelf made is not in the cache:", p.Cache().Dirty())
	}
}

// P15.2, the example: a disk of noughts is no pool.
func TestOpenOfNoughts(t *testing.T) {
	for _, blocks := range sizes {
		refused(t, "noughts", anew(t, blocks), 1, api.ErrPool)
	}
}

// slotTold: what a slot's bytes say, by the words of chapter 14.
func slotTold(b []byte, slot, blocks int, said []api.Super) (api.Super, bool) {
	for _, s := range said {
		if bytes.Equal(b[:api.Sector], formOf(s)[:api.Sector]) && s.Gen%2 == uint64(slot) {
			return s, true
		}
	}
	return api.Super{}, false
}

// P15.2: of two slots the greater generation's; one that is no form, that is torn, or the other slot's, is not asked; nor is what stands behind the first sector.
func TestOpenChooses(t *testing.T) {
	const blocks = 20
	var said []api.Super
	for _, gen := range []uint64{1, 2, 3, 4, 7, 254, 255, 256, 257, greatestGen - 1, greatestGen} {
		said = append(said, api.Super{Gen: gen, Blocks: blocks, Dir: gen % 5, Next: gen})
	}
	forms := [][]byte{make([]byte, api.Block), noise(numbers(1)), formOf(api.Super{Gen: 0, Blocks: blocks, Next: 1}), formOf(api.Super{Gen: greatestGen + 1, Blocks: blocks, Next: 1}), formOf(api.Super{Gen: 9, Blocks: blocks, Next: 0})}
	for _, s := range said {
		whole := formOf(s)
		torn := slices.Concat(whole[:60], make([]byte, 196))
		followed := slices.Concat(whole[:api.Sector], noise(numbers(2))[:192])
		late := slices.Concat(make([]byte, api.Sector), whole[:192])
		forms = append(forms, whole, torn, followed, late)
	}
	counts := some(blocks, 3)
	for at := range 5 {
		counts[at] = 9
	}
	for _, a := range forms {
		for _, b := range forms {
			d := anew(t, blocks)
			for at := 2; at < 4; at++ {
				write(t, d, at, page(t, counts, at))
			}
			write(t, d, 0, a)
			write(t, d, 1, b)
			x, isA := slotTold(a, 0, blocks, said)
			y, isB := slotTold(b, 1, blocks, said)
			switch {
			case !isA && !isB:
				refused(t, "no slot", d, 1, api.ErrPool)
			case isB && y.Gen > x.Gen: // x is of no Gen, if there is none
				looked(t, d, 2, y, counts)
			default:
				looked(t, d, 2, x, counts)
			}
		}
	}
}

// P15.2: the newest commit's Blocks are the disk's, or there is no pool, even if the other slot's are.
func TestOpenOfAnotherDisk(t *testing.T) {
	for _, blocks := range []int{16, 17, 240, 241, 1024} {
		for _, said := range []int{16, 17, 18, blocks - 1, blocks + 1, 239, 240, 241, 242, 1023, 1024} {
			if said == blocks || said < 16 || said > api.MaxBlocks {
				continue // the last two say nothing: the older one is chosen
			}
			d := formatted(t, blocks)
			older := api.Super{Gen: 6, Blocks: blocks, Next: 1}
			byHand(t, d, older, empty(blocks))
			looked(t, d.Copy(), 1, older, empty(blocks))
			write(t, d, 1, formOf(api.Super{Gen: 7, Blocks: said, Next: 1}))
			for n, part := range cut(empty(blocks)) {
				at := areaOf(7, blocks) + n
				write(t, d, at, page(t, part, at))
			}
			refused(t, "another disk", d, 1, api.ErrPool)
			write(t, d, 0, make([]byte, api.Block))
			refused(t, "another disk, alone", d, 1, api.ErrPool)
		}
	}
}

// P15.2: each page of the commit's area is one that can be opened there; the other area is not asked.
func TestOpenPages(t *testing.T) {
	r := numbers(4)
	for _, blocks := range []int{16, 240, 241, 720, 1024} {
		for _, gen := range []uint64{8, 9} {
			s := api.Super{Gen: gen, Blocks: blocks, Next: 1}
			d := garbage(t, blocks, 7)
			counts := some(blocks, gen)
			byHand(t, d, s, counts)
			k := pagesOf(blocks)
			for n := range k {
				at, other := areaOf(gen, blocks)+n, areaOf(gen+1, blocks)+n
				for name, b := range spoilt(t, read(t, d, at), cut(counts)[n], at, other, r) {
					x := d.Copy()
					write(t, x, at, b)
					refused(t, name, x, 1, api.ErrPool)
					x = d.Copy()
					write(t, x, other, b)
					looked(t, x, 1, s, counts)
				}
			}
			if k > 1 {
				x, at := d.Copy(), areaOf(gen, blocks)
				b := read(t, x, at)
				write(t, x, at, read(t, x, at+1))
				write(t, x, at+1, b)
				refused(t, "pages in each other's place", x, 1, api.ErrPool)
			}
		}
	}
}

// spoilt: blocks that are no page at that place.
func spoilt(t *testing.T, b, counts []byte, at, other int, r interface{ IntN(int) int }) map[string][]byte {
	t.Helper()
	l := map[string][]byte{"noughts": make([]byte, api.Block), "another place": page(t, counts, other)}
	for _, kind := range []byte{0, api.KindNode, api.KindData, api.KindEntry, 255} {
		x, e := stamp.Seal(counts, at, kind)
		ok(t, "Seal", e)
		l["another kind "+string(rune('a'+int(kind%26)))] = x
	}
	for i := range 12 {
		x := bytes.Clone(b)
		x[r.IntN(api.Block)] ^= 1 << r.IntN(8)
		l["a bit "+string(rune('a'+i))] = x
		l["torn "+string(rune('a'+i))] = slices.Concat(b[:i*20], noise(numbers(uint64(i)))[i*20:])
	}
	return l
}

// P15.2: something stands behind the last count: counts.Take refuses it.
func TestOpenBehindTheLastCount(t *testing.T) {
	for _, blocks := range []int{16, 17, 239, 241, 479, 1024} {
		for _, gen := range []uint64{8, 9} {
			s := api.Super{Gen: gen, Blocks: blocks, Next: 1}
			counts := empty(blocks)
			parts := cut(counts)
			last := len(parts) - 1
			at := areaOf(gen, blocks) + last
			for i := len(parts[last]); i < api.Payload; i++ {
				if i > len(parts[last])+2 && i < 237 {
					continue
				}
				d := anew(t, blocks)
				byHand(t, d, s, counts)
				payload := make([]byte, api.Payload)
				copy(payload, parts[last])
				payload[i] = 1
				write(t, d, at, page(t, payload, at))
				refused(t, "behind the last count", d, 1, api.ErrPool)
			}
		}
	}
}

// P15.2: each block that is kept back is counted, however often, and Dir is, if it is not 0; of no other block anything is asked.
func TestOpenCounted(t *testing.T) {
	for _, blocks := range []int{16, 17, 240, 241, 480, 481, 1024} {
		back := backOf(blocks)
		for _, gen := range []uint64{10, 11} {
			for at := range back + 2 {
				for _, count := range []byte{0, 2, 255} {
					d, counts := anew(t, blocks), empty(blocks)
					counts[at] = count
					s := api.Super{Gen: gen, Blocks: blocks, Next: 1}
					byHand(t, d, s, counts)
					if at < back && count == 0 {
						refused(t, "kept back", d, 1, api.ErrPool)
					} else {
						looked(t, d, 1, s, counts)
					}
				}
			}
			for _, dir := range []int{1, 2, back - 1, back, back + 1, blocks - 2, blocks - 1} {
				for _, count := range []byte{0, 1, 255} {
					d, counts := anew(t, blocks), empty(blocks)
					counts[dir] = max(count, counts[dir])
					s := api.Super{Gen: gen, Blocks: blocks, Dir: uint64(dir), Next: 1}
					byHand(t, d, s, counts)
					if counts[dir] == 0 {
						refused(t, "Dir", d, 1, api.ErrPool)
					} else {
						looked(t, d, 1, s, counts)
					}
				}
			}
		}
	}
}
