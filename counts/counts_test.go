package counts_test

import (
	"bytes"
	"math"
	"math/rand/v2"
	"slices"
	"testing"

	"cistern/api"
	"cistern/counts"
)

// plainPages: the pages of counts as the chapter's words tell them: the first 240, the next 240, and so on; noughts behind the last.
func plainPages(all []byte) [][]byte {
	var pages [][]byte
	for at, count := range all {
		if at%240 == 0 {
			pages = append(pages, make([]byte, 240))
		}
		pages[at/240][at%240] = count
	}
	return pages
}

// plainTake: what Take should tell.
func plainTake(pages [][]byte, blocks int) ([]byte, api.Errno) {
	if blocks < 0 || blocks > 1024 {
		return nil, api.ErrArg
	}
	need := len(plainPages(make([]byte, blocks)))
	if len(pages) < need {
		return nil, api.ErrShort
	}
	if len(pages) > need {
		return nil, api.ErrLong
	}
	for _, p := range pages {
		if len(p) != 240 {
			return nil, api.ErrForm
		}
	}
	all := bytes.Join(pages, nil)
	for _, behind := range all[blocks:] {
		if behind != 0 {
			return nil, api.ErrForm
		}
	}
	return all[:blocks], api.OK
}

// numbers: the same pseudo-random numbers in each run.
func numbers(seed uint64) *rand.Rand { return rand.New(rand.NewPCG(8, seed)) }

// some: n counts of all kinds, 0 and 255 often among them.
func some(g *rand.Rand, n int) []byte {
	l := make([]byte, n)
	for i := range l {
		switch g.IntN(4) {
		case 0:
			l[i] = 255
		case 1:
		default:
			l[i] = byte(g.IntN(256))
		}
	}
	return l
}

// kinds: n counts, in some of which each page ends with what is not 0.
func kinds(g *rand.Rand, n int) [][]byte {
	return [][]byte{make([]byte, n), bytes.Repeat([]byte{255}, n), bytes.Repeat([]byte{1}, n), some(g, n)}
}

// samePages: that two lists of pages are the same, byte by byte.
func samePages(a, b [][]byte) bool { return slices.EqualFunc(a, b, bytes.Equal) }

// copied: the same pages, in memory of their own.
func copied(pages [][]byte) [][]byte {
	own := make([][]byte, len(pages))
	for n, p := range pages {
		own[n] = slices.Clone(p)
	}
	return own
}

// takes: that just these counts are taken.
func takes(t *testing.T, pages [][]byte, want []byte) {
	t.Helper()
	if got, e := counts.Take(pages, len(want)); e != api.OK || !bytes.Equal(got, want) {
		t.Errorf("Take of %d blocks = % x, %d, want % x", len(want), got, e, want)
	}
}

// refused: that nothing is taken, by that error.
func refused(t *testing.T, pages [][]byte, blocks int, want api.Errno) {
	t.Helper()
	if got, e := counts.Take(pages, blocks); e != want || len(got) != 0 {
		t.Errorf("Take of %d pages, %d blocks = % x, %d, want none, %d", len(pages), blocks, got, e, want)
	}
}

// isPage: that the page n of all is this one.
func isPage(t *testing.T, all []byte, n int, want []byte) {
	t.Helper()
	if got, e := counts.Page(all, n); e != api.OK || !bytes.Equal(got, want) {
		t.Errorf("Page of %d counts, %d = % x, %d, want % x", len(all), n, got, e, want)
	}
}

// noPage: that all has no page n.
func noPage(t *testing.T, all []byte, n int) {
	t.Helper()
	if got, e := counts.Page(all, n); e != api.ErrArg || len(got) != 0 {
		t.Errorf("Page of %d counts, %d = % x, %d, want none, %d", len(all), n, got, e, api.ErrArg)
	}
}

// TestPages: P8.1: each number up to more than a disk has; 0 of what is below 0.
func TestPages(t *testing.T) {
	want := 0
	for blocks := range 5000 {
		if blocks%240 == 1 {
			want++
		}
		if got := counts.Pages(blocks); got != want {
			t.Errorf("Pages(%d) = %d, want %d", blocks, got, want)
		}
		if got := counts.Pages(-blocks); got != 0 {
			t.Errorf("Pages(%d) = %d", -blocks, got)
		}
	}
	for _, below := range []int{-1 << 31, -1 << 32, -math.MaxInt, math.MinInt + 239, math.MinInt + 1, math.MinInt} {
		if got := counts.Pages(below); got != 0 {
			t.Errorf("Pages(%d) = %d", below, got)
		}
	}
}

// TestPagesOfGreatNumbers: P8.1, R6: no sum wraps up to the greatest number.
func TestPagesOfGreatNumbers(t *testing.T) {
	full := math.MaxInt / 240 // so many pages are full
	for _, x := range []struct{ blocks, want int }{
		{math.MaxInt, full + 1}, {math.MaxInt - 1, full + 1}, {full*240 + 1, full + 1},
		{full * 240, full}, {full*240 - 1, full}, {full*240 - 239, full}, {full*240 - 240, full - 1},
		{1<<31 - 1, 8947849}, {1 << 31, 8947849}, {1 << 32, 17895698}, {240 << 32, 1 << 32}, {240<<32 + 1, 1<<32 + 1},
	} {
		if got := counts.Pages(x.blocks); got != x.want {
			t.Errorf("Pages(%d) = %d, want %d", x.blocks, got, x.want)
		}
	}
}

// TestPut: P8.2, of each number of counts that a disk may have, and of more.
func TestPut(t *testing.T) {
	g := numbers(1)
	for n := range 1300 {
		for _, all := range kinds(g, n) {
			if got, want := counts.Put(all), plainPages(all); !samePages(got, want) || len(got) != counts.Pages(n) {
				t.Errorf("Put of % x = % x, want % x", all, got, want)
			}
		}
	}
	for _, n := range []int{2400, 2401, 1 << 16, 1<<20 + 7} {
		if all := some(g, n); !samePages(counts.Put(all), plainPages(all)) {
			t.Errorf("Put of %d counts", n)
		}
	}
}

// TestPutOfNone: P8.2, R4: no counts have no page, whichever list of none they are.
func TestPutOfNone(t *testing.T) {
	for _, none := range [][]byte{nil, {}, make([]byte, 0, 500), []byte{1, 2, 3}[:0]} {
		if got := counts.Put(none); len(got) != 0 {
			t.Errorf("Put of none = % x", got)
		}
		for _, n := range outside(0) {
			noPage(t, none, n)
		}
		takes(t, nil, none)
		takes(t, [][]byte{}, none)
	}
}

// outside: numbers of which pages in all have none; some of them wrap to small ones, if 240, or 256, is multiplied by them.
func outside(pages int) []int {
	return []int{
		pages, pages + 1, pages + 2, pages + 5, pages + 1024, -1, -2, -pages - 1, -240, -1024,
		1 << 32, -1 << 32, 1 << 56, 1 << 60, -1 << 60, 1 << 62, 1<<60 + 1, math.MaxInt/240 + 1, math.MaxInt - 1, math.MaxInt, math.MinInt, math.MinInt + 1, math.MinInt + pages,
	}
}

// TestPage: P8.2, each page of each number of counts that a disk may have; and those that are none.
func TestPage(t *testing.T) {
	g := numbers(2)
	for n := range 1300 {
		all := some(g, n)
		pages := plainPages(all)
		for at, want := range pages {
			isPage(t, all, at, want)
		}
		for _, at := range outside(len(pages)) {
			noPage(t, all, at)
		}
	}
	all := some(g, 1<<16)
	for at, want := range plainPages(all) {
		isPage(t, all, at, want)
	}
	noPage(t, all, 274)
}

// TestBack: P8.3, P8.4: what was put is taken as it was, of each number of blocks that a disk may have.
func TestBack(t *testing.T) {
	g := numbers(3)
	for n := 0; n <= 1024; n++ {
		for _, all := range kinds(g, n) {
			takes(t, counts.Put(all), all)
			takes(t, plainPages(all), all)
		}
	}
}

// TestPutAgain: P8.4: what is taken is put as it was.
func TestPutAgain(t *testing.T) {
	g := numbers(4)
	for blocks := 0; blocks <= 1024; blocks++ {
		pages := plainPages(some(g, blocks))
		all, e := counts.Take(pages, blocks)
		if again := counts.Put(all); e != api.OK || !samePages(again, pages) {
			t.Errorf("Take of %d blocks = %d, and put again % x, want % x", blocks, e, again, pages)
		}
	}
}

// TestTakeOfBlocksThatMayNotBe: P8.3, R5: ErrArg goes ahead of all, whatever pages there are: none, just as many as that number has, fewer, more, and such as are not in their form.
func TestTakeOfBlocksThatMayNotBe(t *testing.T) {
	for _, blocks := range []int{-1, -2, -240, -1024, 1025, 1026, 1200, 1201, 2048, 1<<16 + 5, 1 << 32, 1<<32 + 5, -1 << 32, math.MaxInt, math.MaxInt - 1, math.MinInt, math.MinInt + 1} {
		for pages := range 12 {
			refused(t, plainPages(make([]byte, 240*pages)), blocks, api.ErrArg)
			refused(t, make([][]byte, pages), blocks, api.ErrArg)
			refused(t, plainPages(bytes.Repeat([]byte{7}, 240*pages)), blocks, api.ErrArg)
		}
	}
}

// TestTakeOfOtherPages: P8.3: each number of blocks, with each number of pages; ErrShort and ErrLong go ahead of ErrForm, whatever is on the pages.
func TestTakeOfOtherPages(t *testing.T) {
	for blocks := 0; blocks <= 1024; blocks++ {
		need := len(plainPages(make([]byte, blocks)))
		for pages := range 8 {
			want := api.ErrShort
			switch {
			case pages == need:
				continue
			case pages > need:
				want = api.ErrLong
			}
			refused(t, plainPages(make([]byte, 240*pages)), blocks, want)
			refused(t, plainPages(bytes.Repeat([]byte{7}, 240*pages)), blocks, want)
			refused(t, make([][]byte, pages), blocks, want)
		}
	}
	refused(t, make([][]byte, 1<<16), 1024, api.ErrLong)
}

// TestTakeOfPagesOfOtherLengths: P8.3: a page, whichever it is, that has not 240 bytes: fewer, if only noughts lack, or more, if only noughts are too many, too.
func TestTakeOfPagesOfOtherLengths(t *testing.T) {
	g := numbers(5)
	for _, blocks := range []int{1, 2, 239, 240, 241, 480, 481, 960, 961, 1024} {
		for _, all := range kinds(g, blocks) {
			pages := plainPages(all)
			for n, whole := range pages {
				for _, length := range []int{0, 1, 2, 64, 238, 239, 241, 242, 256, 480, 1200} {
					pages[n] = slices.Clone(append(slices.Clone(whole), make([]byte, 960)...)[:length])
					refused(t, pages, blocks, api.ErrForm)
				}
				pages[n] = nil
				refused(t, pages, blocks, api.ErrForm)
				pages[n] = whole
			}
			takes(t, pages, all)
		}
	}
}

// TestTakeOfLengthsThatEvenOut: P8.3: it is each page that has 240 bytes, not all of them together.
func TestTakeOfLengthsThatEvenOut(t *testing.T) {
	g := numbers(6)
	all := some(g, 480)
	for _, cut := range []int{0, 1, 100, 239, 241, 300, 480} {
		refused(t, [][]byte{slices.Clone(all[:cut]), slices.Clone(all[cut:])}, 480, api.ErrForm)
	}
	takes(t, [][]byte{slices.Clone(all[:240]), slices.Clone(all[240:])}, all)
}

// TestTakeOfRoomBehind: P8.3: a page ends where its bytes do, whatever stands in its room behind them.
func TestTakeOfRoomBehind(t *testing.T) {
	all := some(numbers(7), 480)
	takes(t, [][]byte{all[:240], all[240:]}, all)
	refused(t, [][]byte{all[:239], all[240:]}, 480, api.ErrForm)
	refused(t, [][]byte{all[:240], all[241:]}, 480, api.ErrForm)
}

// TestTakeWithSomethingBehind: P8.3: each byte behind the last count, whatever stands there; what stands ahead of it, the last count among it, may be anything.
func TestTakeWithSomethingBehind(t *testing.T) {
	g := numbers(8)
	for _, blocks := range []int{1, 2, 3, 120, 238, 239, 241, 242, 479, 481, 719, 721, 959, 961, 1023, 1024} {
		for _, all := range kinds(g, blocks) {
			pages := plainPages(all)
			last := pages[len(pages)-1]
			for at := (blocks-1)%240 + 1; at < 240; at++ {
				for _, behind := range []byte{1, 2, 127, 128, 254, 255} {
					last[at] = behind
					refused(t, pages, blocks, api.ErrForm)
				}
				last[at] = 0
			}
			takes(t, pages, all)
			for _, count := range []byte{0, 1, 255} {
				last[(blocks-1)%240] = count
				all[blocks-1] = count
				takes(t, pages, all)
			}
		}
	}
}

// TestTakeOfFewerBlocks: P8.3: fewer blocks than were put, on as many pages: right, if all that is left out is 0; else ErrForm.
func TestTakeOfFewerBlocks(t *testing.T) {
	all := make([]byte, 1024)
	copy(all, some(numbers(9), 1000))
	all[999] = 1
	pages := counts.Put(all)
	for blocks := 961; blocks <= 1024; blocks++ {
		if blocks < 1000 {
			refused(t, pages, blocks, api.ErrForm)
		} else {
			takes(t, pages, all[:blocks])
		}
	}
	refused(t, pages, 960, api.ErrLong)
}

// TestTakeAgainstPlain: P8.3: any pages, most of them almost right, held against the chapter's words.
func TestTakeAgainstPlain(t *testing.T) {
	g := numbers(10)
	told := map[api.Errno]int{}
	for range 40000 {
		blocks := g.IntN(1100) - 20
		pages := plainPages(some(g, max(0, blocks+g.IntN(3)*g.IntN(5)-2)))
		if len(pages) > 0 {
			n := g.IntN(len(pages))
			switch g.IntN(8) {
			case 0:
				pages = pages[:n]
			case 1:
				pages = append(pages, make([]byte, 240))
			case 2:
				pages[n] = pages[n][:g.IntN(241)]
			case 3:
				pages[n] = append(pages[n], make([]byte, g.IntN(3))...)
			case 4:
				pages[n][g.IntN(240)] ^= byte(g.IntN(256))
			}
		}
		got, e := counts.Take(pages, blocks)
		want, f := plainTake(pages, blocks)
		if e != f || !bytes.Equal(got, want) {
			t.Fatalf("Take of % x, %d blocks = % x, %d, want % x, %d", pages, blocks, got, e, want, f)
		}
		told[e]++
	}
	for _, e := range []api.Errno{api.OK, api.ErrArg, api.ErrShort, api.ErrLong, api.ErrForm} {
		if told[e] < 100 {
			t.Errorf("%d was told %d times alone", e, told[e])
		}
	}
}

// TestOneCount: P8.5: one count, wherever it stands, that becomes another one changes just its page, and there just its byte.
func TestOneCount(t *testing.T) {
	g := numbers(11)
	for _, n := range []int{1, 2, 239, 240, 241, 480, 481, 1024, 1500} {
		all := some(g, n)
		was := counts.Put(all)
		for at := range all {
			former := all[at]
			all[at] += byte(1 + g.IntN(255))
			now := counts.Put(all)
			for page, want := range was {
				if page == at/240 {
					want = slices.Clone(want)
					want[at%240] = all[at]
				}
				if !bytes.Equal(now[page], want) {
					t.Errorf("the count %d of %d: the page %d = % x, want % x", at, n, page, now[page], want)
				}
				isPage(t, all, page, want)
			}
			all[at] = former
		}
	}
}

// TestHandedInStays: R3: counts and pages that are handed in, and what stands in their room, are as they were, with an error, too.
func TestHandedInStays(t *testing.T) {
	g := numbers(12)
	for _, n := range []int{0, 1, 239, 240, 241, 481, 1000, 1024} {
		room := some(g, 1500)
		was := slices.Clone(room)
		counts.Put(room[:n])
		for at := range 8 {
			counts.Page(room[:n], at-1)
		}
		if !bytes.Equal(room, was) {
			t.Errorf("%d counts have changed", n)
		}
		for _, length := range []int{200, 239, 240, 241} {
			pages := make([][]byte, 6)
			for i := range pages {
				pages[i] = room[i*250:][:length]
			}
			list := copied(pages)
			for number := range 7 {
				counts.Take(pages[:number], n)
				counts.Take(pages[:number], n-1)
			}
			if !bytes.Equal(room, was) || !samePages(pages, list) {
				t.Errorf("pages of %d bytes have changed", length)
			}
		}
	}
}

// scribbled: all of a list is written over, its room too.
func scribbled(b []byte) {
	b = b[:cap(b)]
	for i := range b {
		b[i] ^= 0x5a
	}
}

// TestPutLivesApart: R3: pages share nothing with the counts, with one another, or with those of another call.
func TestPutLivesApart(t *testing.T) {
	for _, n := range []int{1, 239, 240, 241, 480, 720, 1024} {
		all := some(numbers(13), n)
		want := plainPages(all)
		pages, others := counts.Put(all), counts.Put(all)
		for page := range pages {
			scribbled(pages[page])
			for next := page + 1; next < len(pages); next++ {
				if !bytes.Equal(pages[next], want[next]) {
					t.Errorf("of %d counts the pages %d and %d share memory", n, page, next)
				}
			}
		}
		if !samePages(others, want) || !samePages(counts.Put(all), want) {
			t.Errorf("pages of %d counts share memory with others, or with the counts", n)
		}
		scribbled(all)
		if !samePages(others, want) {
			t.Errorf("pages of %d counts hang on what becomes of these", n)
		}
	}
}

// TestPageLivesApart: R3: likewise of one page.
func TestPageLivesApart(t *testing.T) {
	for _, n := range []int{1, 239, 240, 241, 480, 720, 1024} {
		all := some(numbers(14), n)
		for at, want := range plainPages(all) {
			one, _ := counts.Page(all, at)
			two, _ := counts.Page(all, at)
			scribbled(one)
			isPage(t, all, at, want)
			if !bytes.Equal(two, want) {
				t.Errorf("the page %d of %d counts shares memory with another", at, n)
			}
			now := slices.Clone(all)
			three, _ := counts.Page(now, at)
			scribbled(now)
			if !bytes.Equal(three, want) {
				t.Errorf("the page %d of %d counts hangs on what becomes of these", at, n)
			}
		}
	}
}

// TestTakenLivesApart: R3: likewise of counts.
func TestTakenLivesApart(t *testing.T) {
	for _, n := range []int{1, 239, 240, 241, 480, 720, 1024} {
		all := some(numbers(15), n)
		pages := plainPages(all)
		one, _ := counts.Take(pages, n)
		two, _ := counts.Take(pages, n)
		scribbled(one)
		takes(t, pages, all)
		for _, p := range pages {
			scribbled(p)
		}
		if !bytes.Equal(two, all) {
			t.Errorf("%d counts share memory with others, or with the pages", n)
		}
	}
}

// TestNothingIsKept: R7: what is answered hangs on what was handed in alone, not on what was asked ahead.
func TestNothingIsKept(t *testing.T) {
	g := numbers(16)
	for range 2000 {
		all := some(g, g.IntN(1025))
		pages := counts.Put(all)
		if !samePages(pages, plainPages(all)) {
			t.Errorf("Put of % x = % x", all, pages)
		}
		if len(pages) > 0 {
			at := g.IntN(len(pages))
			isPage(t, all, at, pages[at])
			refused(t, pages[:at], len(all), api.ErrShort)
		}
		takes(t, pages, all)
	}
}

// TestExamples: the chapter's.
func TestExamples(t *testing.T) {
	for _, x := range [][2]int{{0, 0}, {1, 1}, {240, 1}, {241, 2}, {1024, 5}, {-5, 0}} {
		if got := counts.Pages(x[0]); got != x[1] {
			t.Errorf("Pages(%d) = %d, want %d", x[0], got, x[1])
		}
	}
	pages := counts.Put([]byte{1, 2, 3})
	if want := append([]byte{1, 2, 3}, make([]byte, 237)...); !samePages(pages, [][]byte{want}) {
		t.Errorf("Put of 1 2 3 = % x", pages)
	}
	takes(t, pages, []byte{1, 2, 3})
	refused(t, pages, 2, api.ErrForm)
	refused(t, pages, 241, api.ErrShort)
	refused(t, pages, 0, api.ErrLong)

	all := bytes.Repeat([]byte{9}, 240)
	all = append(all, 77)
	isPage(t, all, 1, append([]byte{77}, make([]byte, 239)...))
	noPage(t, all, 2)
	noPage(t, all, -1)
}
