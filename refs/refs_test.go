package refs_test

import (
	"bytes"
	"math"
	"math/rand/v2"
	"slices"
	"testing"

	"cistern/api"
	"cistern/refs"
)

// plain: Refs as the chapter's words tell them: the counts, those of the commit, and which blocks were handed out since.
type plain struct {
	now, commit []byte
	handed      []bool
}

func newPlain(counts []byte) *plain {
	return &plain{bytes.Clone(counts), bytes.Clone(counts), make([]bool, len(counts))}
}

func (p *plain) has(at int) bool { return at >= 0 && at < len(p.now) }

func (p *plain) fresh(at int) bool { return p.has(at) && p.handed[at] && p.now[at] > 0 }

// free: which blocks are, rising.
func (p *plain) free() []int {
	var l []int
	for at := range p.now {
		if p.now[at] == 0 && p.commit[at] == 0 {
			l = append(l, at)
		}
	}
	return l
}

func (p *plain) alloc() (int, api.Errno) {
	l := p.free()
	if len(l) == 0 {
		return 0, api.ErrFull
	}
	p.now[l[0]], p.handed[l[0]] = 1, true
	return l[0], api.OK
}

func (p *plain) inc(at int) api.Errno {
	switch {
	case !p.has(at):
		return api.ErrArg
	case p.now[at] == 0:
		return api.ErrNone
	case p.now[at] == 255:
		return api.ErrFull
	}
	p.now[at]++
	return api.OK
}

func (p *plain) dec(at int) (bool, api.Errno) {
	switch {
	case !p.has(at):
		return false, api.ErrArg
	case p.now[at] == 0:
		return false, api.ErrNone
	}
	p.now[at]--
	return p.now[at] == 0, api.OK
}

func (p *plain) commits() {
	p.commit, p.handed = bytes.Clone(p.now), make([]bool, len(p.now))
}

func (p *plain) aborts() {
	p.now, p.handed = bytes.Clone(p.commit), make([]bool, len(p.now))
}

func (p *plain) copied() *plain {
	return &plain{bytes.Clone(p.now), bytes.Clone(p.commit), slices.Clone(p.handed)}
}

// pair: Refs, and what they are held against.
type pair struct {
	r *refs.Refs
	p *plain
}

func newPair(t *testing.T, counts []byte) pair {
	t.Helper()
	return pair{made(t, counts...), newPlain(counts)}
}

// alloc: that both hand out the same.
func (x pair) alloc(t *testing.T) {
	t.Helper()
	got, e := x.r.Alloc()
	want, f := x.p.alloc()
	if got != want || e != f {
		t.Errorf("Alloc = %d, %d, want %d, %d", got, e, want, f)
	}
}

func (x pair) inc(t *testing.T, at int) {
	t.Helper()
	told(t, "Inc", x.r.Inc(at), x.p.inc(at))
}

func (x pair) dec(t *testing.T, at int) {
	t.Helper()
	got, e := x.r.Dec(at)
	want, f := x.p.dec(at)
	if got != want || e != f {
		t.Errorf("Dec(%d) = %v, %d, want %v, %d", at, got, e, want, f)
	}
}

func (x pair) commit(t *testing.T) {
	t.Helper()
	told(t, "Commit", x.r.Commit(), api.OK)
	x.p.commits()
}

func (x pair) abort(t *testing.T) {
	t.Helper()
	told(t, "Abort", x.r.Abort(), api.OK)
	x.p.aborts()
}

// become: that both become what others are, if they may.
func (x pair) become(t *testing.T, y pair) {
	t.Helper()
	want := api.OK
	if len(x.p.now) != len(y.p.now) {
		want = api.ErrArg
	} else {
		*x.p = *y.p.copied()
	}
	told(t, "Become", x.r.Become(y.r), want)
}

// copied: both, copied.
func (x pair) copied() pair { return pair{x.r.Copy(), x.p.copied()} }

// alike: that all that is asked without a change is the same, of blocks that are none, too.
func (x pair) alike(t *testing.T) {
	t.Helper()
	if got := x.r.Counts(); !bytes.Equal(got, x.p.now) {
		t.Errorf("Counts = %d, want %d", got, x.p.now)
	}
	if got, want := x.r.Free(), len(x.p.free()); got != want {
		t.Errorf("Free = %d, want %d", got, want)
	}
	for at := -1; at <= len(x.p.now); at++ {
		count := 0
		if x.p.has(at) {
			count = int(x.p.now[at])
		}
		if x.r.Count(at) != count || x.r.Fresh(at) != x.p.fresh(at) {
			t.Errorf("Count, Fresh of %d = %d, %v, want %d, %v", at, x.r.Count(at), x.r.Fresh(at), count, x.p.fresh(at))
		}
	}
}

// whole: that both are the same in all that any call could tell: what would be handed out, and what an Abort, and a Commit, would leave.
func (x pair) whole(t *testing.T) {
	t.Helper()
	x.alike(t)
	hands(t, x.r.Copy(), x.p.free()...)
	isFull(t, drained(t, x.r.Copy()))
	back, on := x.copied(), x.copied()
	back.abort(t)
	back.alike(t)
	hands(t, back.r, back.p.free()...)
	on.commit(t)
	on.alike(t)
	hands(t, on.r, on.p.free()...)
	x.alike(t)
}

// made: Refs with these counts.
func made(t *testing.T, counts ...byte) *refs.Refs {
	t.Helper()
	r, e := refs.New(counts)
	if r == nil || e != api.OK {
		t.Fatalf("New of %d counts = %v, %d", len(counts), r, e)
	}
	return r
}

// told: that a call told the error that it should.
func told(t *testing.T, what string, got, want api.Errno) {
	t.Helper()
	if got != want {
		t.Errorf("%s = %d, want %d", what, got, want)
	}
}

// hands: that just these blocks are handed out, one after the other, fresh, and with a count of 1.
func hands(t *testing.T, r *refs.Refs, want ...int) {
	t.Helper()
	for _, at := range want {
		got, e := r.Alloc()
		if got != at || e != api.OK {
			t.Errorf("Alloc = %d, %d, want %d", got, e, at)
		}
		if r.Count(at) != 1 || !r.Fresh(at) {
			t.Errorf("Count, Fresh of %d = %d, %v", at, r.Count(at), r.Fresh(at))
		}
	}
}

// isFull: that no block is handed out, and none stands beside the error, however often it is asked.
func isFull(t *testing.T, r *refs.Refs) {
	t.Helper()
	for range 2 {
		if got, e := r.Alloc(); got != 0 || e != api.ErrFull || r.Free() != 0 {
			t.Errorf("Alloc = %d, %d, Free = %d, want 0, %d, 0", got, e, r.Free(), api.ErrFull)
		}
	}
}

// drained: Refs off which all free blocks were handed out.
func drained(t *testing.T, r *refs.Refs) *refs.Refs {
	t.Helper()
	for n := r.Free(); n > 0; n-- {
		if _, e := r.Alloc(); e != api.OK || r.Free() != n-1 {
			t.Fatalf("Alloc with %d free = %d, then %d are", n, e, r.Free())
		}
	}
	return r
}

// goesTo: that a Dec is well, and tells that.
func goesTo(t *testing.T, r *refs.Refs, at int, gone bool) {
	t.Helper()
	if got, e := r.Dec(at); got != gone || e != api.OK {
		t.Errorf("Dec(%d) = %v, %d, want %v", at, got, e, gone)
	}
}

// noDec: that a Dec tells that error, and nothing beside it.
func noDec(t *testing.T, r *refs.Refs, at int, want api.Errno) {
	t.Helper()
	if got, e := r.Dec(at); got || e != want {
		t.Errorf("Dec(%d) = %v, %d, want false, %d", at, got, e, want)
	}
}

// counted: that these are the counts, and so many blocks are free.
func counted(t *testing.T, r *refs.Refs, free int, want ...byte) {
	t.Helper()
	if got := r.Counts(); !bytes.Equal(got, want) || r.Free() != free {
		t.Errorf("Counts = %d, Free = %d, want %d, %d", got, r.Free(), want, free)
	}
	for at, count := range want {
		if r.Count(at) != int(count) {
			t.Errorf("Count(%d) = %d, want %d", at, r.Count(at), count)
		}
	}
}

// freshAre: that of the blocks just these are fresh.
func freshAre(t *testing.T, r *refs.Refs, want ...int) {
	t.Helper()
	for at := range r.Counts() {
		if r.Fresh(at) != slices.Contains(want, at) {
			t.Errorf("Fresh(%d) = %v", at, r.Fresh(at))
		}
	}
}

// numbers: the same pseudo-random numbers in each run.
func numbers(seed uint64) *rand.Rand { return rand.New(rand.NewPCG(7, seed)) }

// some: n counts, many of which are 0, 1 or the greatest.
func some(r *rand.Rand, n int) []byte {
	counts := make([]byte, n)
	for at := range counts {
		switch r.IntN(8) {
		case 0, 1, 2:
		case 3, 4:
			counts[at] = 1
		case 5:
			counts[at] = 255
		default:
			counts[at] = byte(r.IntN(256))
		}
	}
	return counts
}

// outside: blocks that Refs with n counts have not.
func outside(n int) []int {
	return []int{n, n + 1, n + 2, n + 1024, -1, -2, -1024, 1 << 32, 1<<32 - 1, -1 << 32, math.MaxInt, math.MinInt, math.MinInt + 1}
}

// upTo: the numbers 0 to n - 1.
func upTo(n int) []int {
	l := make([]int, n)
	for i := range l {
		l[i] = i
	}
	return l
}

// TestExamples: the chapter's.
func TestExamples(t *testing.T) {
	r := made(t, 1, 0, 2)
	if at, e := r.Alloc(); at != 1 || e != api.OK || !r.Fresh(1) {
		t.Errorf("Alloc = %d, %d, Fresh(1) = %v", at, e, r.Fresh(1))
	}
	isFull(t, r)
	goesTo(t, r, 1, true)
	hands(t, r, 1)
	goesTo(t, r, 0, true)
	isFull(t, r)
	told(t, "Commit", r.Commit(), api.OK)
	hands(t, r, 0)
	counted(t, r, 0, 1, 1, 2)
	told(t, "Abort", r.Abort(), api.OK)
	counted(t, r, 1, 0, 1, 2)
	goesTo(t, r, 1, true)
	noDec(t, r, 1, api.ErrNone)
}

// TestNew: P7.1, of each number of counts that may be: they are what was handed in, and those of the commit.
func TestNew(t *testing.T) {
	g := numbers(1)
	for n := 1; n <= 1024; n++ {
		counts := some(g, n)
		x := newPair(t, counts)
		x.alike(t)
		freshAre(t, x.r)
		told(t, "Inc behind the last", x.r.Inc(n), api.ErrArg)
		x.dec(t, n-1)
		hands(t, x.r, newPlain(counts).free()...)
		isFull(t, x.r)
		told(t, "Abort", x.r.Abort(), api.OK)
		counted(t, x.r, len(newPlain(counts).free()), counts...)
	}
}

// TestNewOfEachCount: P7.1, of each number that a count can be.
func TestNewOfEachCount(t *testing.T) {
	all := make([]byte, 256)
	for count := range all {
		all[count] = byte(count)
		free := 0
		if count == 0 {
			free = 1
		}
		counted(t, made(t, byte(count)), free, byte(count))
	}
	counted(t, made(t, all...), 1, all...)
}

// TestNewOfAListThatMayNotBe: P7.1.
func TestNewOfAListThatMayNotBe(t *testing.T) {
	for _, counts := range [][]byte{nil, {}, make([]byte, 1025), make([]byte, 1026), make([]byte, 2048), make([]byte, 1<<16), bytes.Repeat([]byte{1}, 1025), make([]byte, 0, 5)} {
		if r, e := refs.New(counts); r != nil || e != api.ErrArg {
			t.Errorf("New of %d counts = %v, %d", len(counts), r, e)
		}
	}
}

// TestNewKeepsNoList: P7.1, R3: the list that was handed in may change behind New, and what is done to the Refs does not change it.
func TestNewKeepsNoList(t *testing.T) {
	list := []byte{1, 0, 2, 255, 0}
	r := made(t, list...)
	list[0], list[1], list[2], list[3], list[4] = 0, 9, 0, 0, 9
	counted(t, r, 2, 1, 0, 2, 255, 0)
	told(t, "Abort", r.Abort(), api.OK)
	counted(t, r, 2, 1, 0, 2, 255, 0)
	hands(t, r, 1, 4)
	isFull(t, r)

	list = []byte{1, 0, 2, 255, 0}
	r = made(t, list...)
	hands(t, r, 1)
	goesTo(t, r, 0, true)
	goesTo(t, r, 2, false)
	told(t, "Commit", r.Commit(), api.OK)
	told(t, "Inc", r.Inc(1), api.OK)
	told(t, "Abort", r.Abort(), api.OK)
	if !bytes.Equal(list, []byte{1, 0, 2, 255, 0}) {
		t.Errorf("the list is %d", list)
	}
}

// TestNewsLiveApart: P7.1, R7.
func TestNewsLiveApart(t *testing.T) {
	list := []byte{0, 1, 0}
	one, two := made(t, list...), made(t, list...)
	hands(t, one, 0, 2)
	goesTo(t, one, 1, true)
	told(t, "Commit", one.Commit(), api.OK)
	counted(t, two, 2, 0, 1, 0)
	hands(t, two, 0)
	counted(t, one, 1, 1, 0, 1)
	counted(t, made(t, list...), 2, 0, 1, 0)
}

// TestAllocAll: P7.2, P7.4, of many numbers of blocks: those that are handed out rise, and then it is full.
func TestAllocAll(t *testing.T) {
	for _, n := range []int{1, 2, 3, 59, 60, 240, 255, 256, 257, 1023, 1024} {
		r := made(t, make([]byte, n)...)
		hands(t, r, upTo(n)...)
		freshAre(t, r, upTo(n)...)
		isFull(t, r)
		counted(t, r, 0, bytes.Repeat([]byte{1}, n)...)
	}
}

// TestAllocWhereNoBlockIsFree: P7.2, R2: because all are pointed to, or because those that are not are of the commit; nothing has changed.
func TestAllocWhereNoBlockIsFree(t *testing.T) {
	r := made(t, 1, 255, 7)
	isFull(t, r)
	counted(t, r, 0, 1, 255, 7)
	freshAre(t, r)

	r = made(t, 1, 1, 1)
	for at := range 3 {
		goesTo(t, r, at, true)
		isFull(t, r)
	}
	counted(t, r, 0, 0, 0, 0)
	freshAre(t, r)
	told(t, "Commit", r.Commit(), api.OK)
	counted(t, r, 3, 0, 0, 0)
	hands(t, r, 0, 1, 2)

	r = made(t, 1, 0)
	hands(t, r, 1)
	goesTo(t, r, 0, true)
	isFull(t, r)
	counted(t, r, 0, 0, 1)
	freshAre(t, r, 1)
}

// TestAllocTakesTheLeast: P7.2, P7.4, whatever was given back, and in which order.
func TestAllocTakesTheLeast(t *testing.T) {
	r := made(t, 0, 3, 0, 0, 1, 0, 0)
	hands(t, r, 0, 2, 3, 5)
	goesTo(t, r, 3, true)
	goesTo(t, r, 0, true)
	goesTo(t, r, 5, true)
	hands(t, r, 0, 3)
	goesTo(t, r, 2, true)
	hands(t, r, 2, 5, 6)
	isFull(t, r)
}

// TestBlocksThatAreNone: P7.2, P7.3: ErrArg of Inc and Dec, 0 and false of Count and Fresh, of blocks below 0 and behind the last; nothing has changed.
func TestBlocksThatAreNone(t *testing.T) {
	g := numbers(2)
	for _, n := range []int{1, 2, 5, 60, 256, 1023, 1024} {
		for _, counts := range [][]byte{make([]byte, n), bytes.Repeat([]byte{255}, n), some(g, n)} {
			x := newPair(t, counts)
			x.alloc(t)
			for _, at := range outside(n) {
				told(t, "Inc", x.r.Inc(at), api.ErrArg)
				noDec(t, x.r, at, api.ErrArg)
				if x.r.Count(at) != 0 || x.r.Fresh(at) {
					t.Errorf("Count, Fresh of %d = %d, %v", at, x.r.Count(at), x.r.Fresh(at))
				}
			}
			x.whole(t)
		}
	}
}

// TestBlocksThatAreNotPointedTo: P7.2, ErrNone of Inc and Dec: of a free block, of one of the commit that is pointed to no more, of a fresh one that is; nothing has changed.
func TestBlocksThatAreNotPointedTo(t *testing.T) {
	none := func(x pair, at int) {
		t.Helper()
		for range 2 {
			told(t, "Inc", x.r.Inc(at), api.ErrNone)
			noDec(t, x.r, at, api.ErrNone)
			x.whole(t)
		}
	}
	x := newPair(t, []byte{0, 1, 0, 2})
	none(x, 0)
	none(x, 2)
	x.dec(t, 1)
	none(x, 1)
	x.alloc(t)
	none(x, 2)
	x.dec(t, 0)
	none(x, 0)
	x.dec(t, 3)
	x.dec(t, 3)
	none(x, 3)
	x.commit(t)
	for at := range 4 {
		none(x, at)
	}
	x.abort(t)
	for at := range 4 {
		none(x, at)
	}
}

// TestIncUpToTheGreatest: P7.2, of a fresh block and of one of the commit: up to 255, and then ErrFull; nothing changes with that, and all that was counted can be taken back.
func TestIncUpToTheGreatest(t *testing.T) {
	x := newPair(t, []byte{1, 0, 254})
	x.alloc(t)
	for at := range 2 {
		for count := 1; count < 255; count++ {
			if x.r.Count(at) != count {
				t.Errorf("Count(%d) = %d, want %d", at, x.r.Count(at), count)
			}
			told(t, "Inc", x.r.Inc(at), api.OK)
			told(t, "Inc, plain", x.p.inc(at), api.OK)
		}
	}
	x.inc(t, 2)
	counted(t, x.r, 0, 255, 255, 255)
	for at := range 3 {
		for range 2 {
			told(t, "Inc", x.r.Inc(at), api.ErrFull)
			x.whole(t)
		}
	}
	for at := range 2 {
		for count := 254; count >= 0; count-- {
			goesTo(t, x.r, at, count == 0)
			if x.r.Count(at) != count {
				t.Errorf("Count(%d) = %d, want %d", at, x.r.Count(at), count)
			}
		}
		noDec(t, x.r, at, api.ErrNone)
	}
	counted(t, x.r, 1, 0, 0, 255)
	goesTo(t, x.r, 2, false)
	told(t, "Inc", x.r.Inc(2), api.OK)
	told(t, "Inc", x.r.Inc(2), api.ErrFull)
	hands(t, x.r, 1)
	isFull(t, x.r)
}

// TestFresh: P7.2, P7.3: what was handed out is fresh, whatever its count, till it is pointed to no more, or a Commit or an Abort comes; nothing else is.
func TestFresh(t *testing.T) {
	r := made(t, 0, 1, 0)
	freshAre(t, r)
	hands(t, r, 0)
	freshAre(t, r, 0)
	told(t, "Inc", r.Inc(0), api.OK)
	told(t, "Inc", r.Inc(1), api.OK)
	freshAre(t, r, 0)
	goesTo(t, r, 0, false)
	goesTo(t, r, 1, false)
	freshAre(t, r, 0)
	goesTo(t, r, 0, true)
	freshAre(t, r)
	hands(t, r, 0, 2)
	freshAre(t, r, 0, 2)
	told(t, "Commit", r.Commit(), api.OK)
	freshAre(t, r)
	goesTo(t, r, 2, true)
	told(t, "Inc", r.Inc(0), api.OK)
	freshAre(t, r)
	told(t, "Commit", r.Commit(), api.OK)
	hands(t, r, 2)
	freshAre(t, r, 2)
	told(t, "Abort", r.Abort(), api.OK)
	freshAre(t, r)
	counted(t, r, 1, 2, 1, 0)
}

// TestBackAtOnce: P7.5: a fresh block that is pointed to no more is free at once, and is handed out again, between two commits, as often as one likes.
func TestBackAtOnce(t *testing.T) {
	r := made(t, 1, 0, 1, 0)
	for range 3 {
		hands(t, r, 1)
		counted(t, r, 1, 1, 1, 1, 0)
		told(t, "Inc", r.Inc(1), api.OK)
		goesTo(t, r, 1, false)
		counted(t, r, 1, 1, 1, 1, 0)
		goesTo(t, r, 1, true)
		counted(t, r, 2, 1, 0, 1, 0)
		freshAre(t, r)
	}
	hands(t, r, 1, 3)
	isFull(t, r)
	goesTo(t, r, 3, true)
	goesTo(t, r, 1, true)
	told(t, "Commit", r.Commit(), api.OK)
	counted(t, r, 2, 1, 0, 1, 0)
	hands(t, r, 1, 3)
}

// TestBackBehindTheCommit: P7.4, P7.5: a block of the commit that is pointed to no more is free behind the next Commit alone, and then just once.
func TestBackBehindTheCommit(t *testing.T) {
	r := made(t, 2, 0, 1)
	goesTo(t, r, 0, false)
	goesTo(t, r, 0, true)
	goesTo(t, r, 2, true)
	counted(t, r, 1, 0, 0, 0)
	hands(t, r, 1)
	isFull(t, r)
	told(t, "Commit", r.Commit(), api.OK)
	counted(t, r, 2, 0, 1, 0)
	told(t, "Commit", r.Commit(), api.OK)
	counted(t, r, 2, 0, 1, 0)
	hands(t, r, 0)
	goesTo(t, r, 0, true)
	goesTo(t, r, 1, true) // now it is of the commit
	counted(t, r, 2, 0, 0, 0)
	hands(t, r, 0, 2)
	isFull(t, r)
	told(t, "Commit", r.Commit(), api.OK)
	hands(t, r, 1)
	isFull(t, r)
}

// TestBackBehindTheAbort: P7.5, P7.6: what an Abort brings back of the commit is not free, what it undoes is.
func TestBackBehindTheAbort(t *testing.T) {
	r := made(t, 1, 0, 1, 0)
	goesTo(t, r, 0, true)
	hands(t, r, 1, 3)
	told(t, "Inc", r.Inc(2), api.OK)
	told(t, "Abort", r.Abort(), api.OK)
	counted(t, r, 2, 1, 0, 1, 0)
	freshAre(t, r)
	hands(t, r, 1, 3)
	isFull(t, r)
	goesTo(t, r, 1, true) // it is free already when the Abort comes
	told(t, "Abort", r.Abort(), api.OK)
	counted(t, r, 2, 1, 0, 1, 0)
	goesTo(t, r, 0, true)
	told(t, "Commit", r.Commit(), api.OK)
	told(t, "Abort", r.Abort(), api.OK)
	counted(t, r, 3, 0, 0, 1, 0)
	hands(t, r, 0, 1, 3)
	isFull(t, r)
}

// TestCommitAndAbort: P7.3, P7.6: each row of four of them, with changes between or with nothing.
func TestCommitAndAbort(t *testing.T) {
	for row := range 1 << 4 {
		for changed := range 1 << 4 {
			x := newPair(t, []byte{1, 0, 2, 0, 255})
			for i := range 4 {
				if changed>>i&1 == 1 {
					x.alloc(t)
					x.dec(t, i)
					x.inc(t, (i+2)%5)
				}
				if row>>i&1 == 1 {
					x.commit(t)
				} else {
					x.abort(t)
				}
				freshAre(t, x.r)
				x.whole(t)
			}
		}
	}
}

// TestAbortUndoes: P7.6: behind any calls an Abort leaves all as behind the last Commit, or behind New.
func TestAbortUndoes(t *testing.T) {
	g := numbers(3)
	for _, n := range []int{1, 2, 5, 60, 1024} {
		x := newPair(t, some(g, n))
		for range 8 {
			was := x.copied()
			for range 3 {
				for range g.IntN(2 * n) {
					x.step(t, g)
				}
				x.abort(t)
				x.alike(t)
				counted(t, x.r, was.r.Free(), was.r.Counts()...)
				hands(t, x.r.Copy(), was.p.free()...)
			}
			for range g.IntN(2 * n) {
				x.step(t, g)
			}
			x.commit(t)
			x.whole(t)
		}
	}
}

// step: one call between two commits, that may be or not.
func (x pair) step(t *testing.T, g *rand.Rand) {
	t.Helper()
	at := g.IntN(len(x.p.now)+2) - 1
	switch g.IntN(4) {
	case 0:
		x.alloc(t)
	case 1:
		x.inc(t, at)
	default:
		x.dec(t, at)
	}
}

// TestCounts: P7.3, R3: the list is new memory, and only a look.
func TestCounts(t *testing.T) {
	for _, n := range []int{1, 3, 1024} {
		counts := some(numbers(4), n)
		r := made(t, counts...)
		free := r.Free()
		one, two := r.Counts(), r.Counts()
		for at := range one {
			one[at] ^= 77
		}
		if !bytes.Equal(two, counts) {
			t.Errorf("another list is %d", two)
		}
		counted(t, r, free, counts...)
		told(t, "Abort", r.Abort(), api.OK)
		counted(t, r, free, counts...)
		one = r.Counts()
		told(t, "Commit", r.Commit(), api.OK)
		for at := range one {
			one[at] ^= 77
		}
		told(t, "Abort", r.Abort(), api.OK)
		counted(t, r, free, counts...)
		drained(t, r)
		if !bytes.Equal(two, counts) {
			t.Errorf("a list of old is %d", two)
		}
	}
}

// busy: Refs in which there is all: a fresh block, one of the commit that is pointed to no more, one that was handed out and given back, one that is free, one whose count changed.
func busy(t *testing.T) pair {
	t.Helper()
	x := newPair(t, []byte{1, 0, 2, 0, 255, 0, 1})
	x.alloc(t)
	x.alloc(t)
	x.inc(t, 3)
	x.dec(t, 1)
	x.dec(t, 0)
	x.dec(t, 4)
	return x
}

// changes: what can be done to Refs like busy's.
func changes(t *testing.T) []func(pair) {
	return []func(pair){
		func(x pair) { x.alloc(t) },
		func(x pair) { x.inc(t, 3) },
		func(x pair) { x.dec(t, 2) },
		func(x pair) { x.dec(t, 6) },
		func(x pair) { x.commit(t) },
		func(x pair) { x.abort(t) },
		func(x pair) { x.become(t, newPair(t, []byte{0, 0, 0, 1, 2, 3, 4})) },
		func(x pair) {
			x.alloc(t)
			x.dec(t, 2)
			x.dec(t, 2)
			x.commit(t)
			x.alloc(t)
		},
	}
}

// TestCopy: P7.3: the same, and what is changed in one is not in the other, whichever of them it is.
func TestCopy(t *testing.T) {
	for _, change := range changes(t) {
		x := busy(t)
		y := x.copied()
		y.whole(t)
		change(y)
		x.whole(t)
		y.whole(t)
		y = x.copied()
		change(x)
		y.whole(t)
		x.whole(t)
		z := y.copied()
		change(z)
		change(z)
		x.whole(t)
		y.whole(t)
		z.whole(t)
	}
}

// TestBecome: P7.3: all is as the others have it, and what is changed in one is not in the other, whichever of them it is.
func TestBecome(t *testing.T) {
	for _, change := range changes(t) {
		for _, counts := range [][]byte{make([]byte, 7), bytes.Repeat([]byte{255}, 7), {1, 0, 2, 0, 255, 0, 1}, {0, 1, 0, 1, 0, 1, 0}} {
			x, y := newPair(t, counts), busy(t)
			x.alloc(t)
			x.dec(t, 6)
			r := x.r
			x.become(t, y)
			x.whole(t)
			y.whole(t)
			change(x)
			x.whole(t)
			y.whole(t)
			x.become(t, y)
			x.whole(t)
			change(y)
			x.whole(t)
			y.whole(t)
			x.become(t, y)
			if x.r != r {
				t.Error("it is another one")
			}
			x.whole(t)
		}
	}
}

// TestBecomeUndoes: P7.3, as a transaction does it: back to a copy that was taken ahead, with its commit and what was fresh.
func TestBecomeUndoes(t *testing.T) {
	x := busy(t)
	was := x.copied()
	x.alloc(t)
	x.dec(t, 3)
	x.commit(t)
	x.dec(t, 2)
	x.commit(t)
	x.become(t, was)
	x.whole(t)
	freshAre(t, x.r, 3)
	x.abort(t)
	counted(t, x.r, 3, 1, 0, 2, 0, 255, 0, 1)
	was.whole(t)
}

// TestBecomeOfItself: P7.3: nothing has changed.
func TestBecomeOfItself(t *testing.T) {
	x := busy(t)
	for range 2 {
		told(t, "Become", x.r.Become(x.r), api.OK)
		x.whole(t)
	}
	for _, change := range changes(t) {
		change(x)
		x.whole(t)
	}
}

// TestBecomeThatMayNotBe: P7.3, R2: of none, of Refs that New did not make, of fewer blocks, and of more; nothing has changed in either.
func TestBecomeThatMayNotBe(t *testing.T) {
	x := busy(t)
	for _, none := range []*refs.Refs{nil, {}, new(refs.Refs)} {
		told(t, "Become of none", x.r.Become(none), api.ErrArg)
		x.whole(t)
		if none.Counts() != nil || none.Free() != 0 {
			t.Error("none has become something")
		}
	}
	for _, n := range []int{1, 6, 8, 60, 1024} {
		y := newPair(t, make([]byte, n))
		y.alloc(t)
		told(t, "Become of others", x.r.Become(y.r), api.ErrArg)
		told(t, "Become of these", y.r.Become(x.r), api.ErrArg)
		x.whole(t)
		y.whole(t)
	}
}

// TestNone: ErrNil goes ahead of all, whatever is asked; and P7.3 of none: 0, false, nothing, nil. None are Refs that New did not make, too.
func TestNone(t *testing.T) {
	x := busy(t)
	for _, r := range []*refs.Refs{nil, {}, new(refs.Refs)} {
		for range 2 {
			if at, e := r.Alloc(); at != 0 || e != api.ErrNil {
				t.Errorf("Alloc = %d, %d", at, e)
			}
			for _, at := range append(outside(0), 1, 5, 1023) {
				told(t, "Inc", r.Inc(at), api.ErrNil)
				noDec(t, r, at, api.ErrNil)
				if r.Count(at) != 0 || r.Fresh(at) {
					t.Errorf("Count, Fresh of %d = %d, %v", at, r.Count(at), r.Fresh(at))
				}
			}
			told(t, "Commit", r.Commit(), api.ErrNil)
			told(t, "Abort", r.Abort(), api.ErrNil)
			for _, other := range []*refs.Refs{nil, {}, r, x.r, made(t, 1)} {
				told(t, "Become", r.Become(other), api.ErrNil)
			}
			if l := r.Counts(); len(l) != 0 || r.Free() != 0 {
				t.Errorf("Counts = %d, Free = %d", l, r.Free())
			}
			if c := r.Copy(); c != nil {
				t.Errorf("Copy = %v", c)
			}
		}
	}
	x.whole(t)
}

// TestEachStep: P7.1 to P7.6: each row of some calls, of Refs with up to three blocks, held against the chapter's words.
func TestEachStep(t *testing.T) {
	starts := [][]byte{{0}, {1}, {2}, {254}, {255}, {0, 0}, {0, 1}, {1, 0}, {1, 1}, {2, 255}, {0, 0, 0}, {1, 0, 2}, {0, 1, 0}, {1, 1, 1}}
	for _, counts := range starts {
		n := len(counts)
		steps := []func(pair){
			func(x pair) { x.alloc(t) },
			func(x pair) { x.commit(t) },
			func(x pair) { x.abort(t) },
		}
		for at := -1; at <= n; at++ {
			steps = append(steps, func(x pair) { x.inc(t, at) }, func(x pair) { x.dec(t, at) })
		}
		var more func(x pair, left int)
		more = func(x pair, left int) {
			x.alike(t)
			if left == 0 || t.Failed() {
				return
			}
			for _, step := range steps {
				next := x.copied()
				step(next)
				more(next, left-1)
			}
			x.alike(t)
		}
		more(newPair(t, counts), 6-n)
	}
}

// TestAgainstPlain: P7.1 to P7.6: long rows of calls, some of which may not be, of few blocks and many; with copies that go on by themselves, and become one another.
func TestAgainstPlain(t *testing.T) {
	g := numbers(5)
	for _, n := range []int{1, 2, 3, 5, 8, 31, 60, 100, 1023, 1024} {
		for range 4 {
			all := []pair{newPair(t, some(g, n)), newPair(t, some(g, n)), newPair(t, some(g, n)), newPair(t, some(g, n%1024+1))}
			for range 3000 {
				x := all[g.IntN(len(all))]
				switch g.IntN(100) {
				case 0:
					x.commit(t)
				case 1:
					x.abort(t)
				case 2:
					x.become(t, all[g.IntN(len(all))])
				case 3:
					all[g.IntN(len(all))] = x.copied()
				case 4:
					x.alike(t)
				default:
					x.step(t, g)
				}
			}
			for _, x := range all {
				x.whole(t)
			}
		}
	}
}

// TestSafe: P7.4: between two commits nothing is handed out that the former one points to, or that is pointed to; it is the least of those.
func TestSafe(t *testing.T) {
	g := numbers(6)
	r := made(t, some(g, 40)...)
	for range 200 {
		commit := r.Counts()
		for range 60 {
			at := g.IntN(40)
			switch g.IntN(4) {
			case 0:
				r.Inc(at)
			case 1:
				r.Dec(at)
			default:
				safe := 0
				for safe < 40 && (commit[safe] > 0 || r.Count(safe) > 0) {
					safe++
				}
				if safe == 40 {
					isFull(t, r)
				} else {
					hands(t, r, safe)
				}
			}
		}
		for at := range commit { // so that it does not fill
			if g.IntN(3) == 0 {
				for range r.Count(at) {
					r.Dec(at)
				}
			}
		}
		told(t, "Commit", r.Commit(), api.OK)
	}
}

// TestLooksChangeNothing: P7.3: Count, Fresh, Free, Counts and Copy.
func TestLooksChangeNothing(t *testing.T) {
	x := busy(t)
	for range 3 {
		x.r.Counts()
		x.r.Copy()
		x.r.Free()
		for at := -1; at <= 7; at++ {
			x.r.Count(at)
			x.r.Fresh(at)
		}
		x.alike(t)
	}
	x.whole(t)
}
