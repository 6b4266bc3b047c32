package free_test

import (
	"math"
	"math/rand/v2"
	"slices"
	"testing"

	"cistern/api"
	"cistern/free"
)

// plain: a space as the chapter's words tell it: of each place whether it is free.
type plain []bool

func newPlain(n int) plain {
	p := make(plain, n)
	for at := range p {
		p[at] = true
	}
	return p
}

func (p plain) take() (int, api.Errno) {
	for at, free := range p {
		if free {
			p[at] = false
			return at, api.OK
		}
	}
	return 0, api.ErrFull
}

func (p plain) claim(at int) api.Errno {
	if at < 0 || at >= len(p) {
		return api.ErrArg
	}
	if !p[at] {
		return api.ErrNone
	}
	p[at] = false
	return api.OK
}

func (p plain) give(at int) api.Errno {
	if at < 0 || at >= len(p) {
		return api.ErrArg
	}
	if p[at] {
		return api.ErrThere
	}
	p[at] = true
	return api.OK
}

func (p plain) list() []int {
	var l []int
	for at, free := range p {
		if free {
			l = append(l, at)
		}
	}
	return l
}

// pair: a space, and what it is held against.
type pair struct {
	s *free.Space
	p plain
}

func newPair(t *testing.T, n int) pair {
	t.Helper()
	return pair{made(t, n), newPlain(n)}
}

// take: that both take the same.
func (x pair) take(t *testing.T) {
	t.Helper()
	got, e := x.s.Take()
	want, f := x.p.take()
	if got != want || e != f {
		t.Errorf("Take = %d, %d, want %d, %d", got, e, want, f)
	}
}

func (x pair) claim(t *testing.T, at int) {
	t.Helper()
	told(t, "Claim", x.s.Claim(at), x.p.claim(at))
}

func (x pair) give(t *testing.T, at int) {
	t.Helper()
	told(t, "Give", x.s.Give(at), x.p.give(at))
}

// alike: that both have the same places free.
func (x pair) alike(t *testing.T) {
	t.Helper()
	lists(t, x.s, x.p.list()...)
}

// copied: both, copied.
func (x pair) copied() pair { return pair{x.s.Copy(), slices.Clone(x.p)} }

// made: a space of n places.
func made(t *testing.T, n int) *free.Space {
	t.Helper()
	s, e := free.New(n)
	if s == nil || e != api.OK {
		t.Fatalf("New(%d) = %v, %d", n, s, e)
	}
	return s
}

// told: that a call told the error that it should.
func told(t *testing.T, what string, got, want api.Errno) {
	t.Helper()
	if got != want {
		t.Errorf("%s = %d, want %d", what, got, want)
	}
}

// takes: that just these places are taken, one after the other.
func takes(t *testing.T, s *free.Space, want ...int) {
	t.Helper()
	for _, at := range want {
		if got, e := s.Take(); got != at || e != api.OK {
			t.Errorf("Take = %d, %d, want %d", got, e, at)
		}
	}
}

// isFull: that no place is taken, and none stands beside the error.
func isFull(t *testing.T, s *free.Space) {
	t.Helper()
	if got, e := s.Take(); got != 0 || e != api.ErrFull {
		t.Errorf("Take = %d, %d, want 0, %d", got, e, api.ErrFull)
	}
}

// lists: that just these places are free.
func lists(t *testing.T, s *free.Space, want ...int) {
	t.Helper()
	if got := s.List(); !slices.Equal(got, want) || s.Free() != len(want) {
		t.Errorf("List = %d, Free = %d, want %d", got, s.Free(), want)
	}
}

// upTo: the numbers 0 to n - 1.
func upTo(n int) []int {
	l := make([]int, n)
	for i := range l {
		l[i] = i
	}
	return l
}

// numbers: the same pseudo-random numbers in each run.
func numbers(seed uint64) *rand.Rand { return rand.New(rand.NewPCG(6, seed)) }

// without: the numbers 0 to n - 1 but these.
func without(n int, gone ...int) []int {
	return slices.DeleteFunc(upTo(n), func(at int) bool { return slices.Contains(gone, at) })
}

// outside: places that a space of n has not.
func outside(n int) []int {
	return []int{n, n + 1, n + 2, n + 1024, -1, -2, -1024, 1 << 32, 1<<32 - 1, -1 << 32, math.MaxInt, math.MinInt, math.MinInt + 1}
}

// TestNew: P6.1, of each number that may be: all places are free, and no more of them are there.
func TestNew(t *testing.T) {
	for n := 0; n <= 1024; n++ {
		s := made(t, n)
		lists(t, s, upTo(n)...)
		told(t, "Claim behind the last", s.Claim(n), api.ErrArg)
		if n > 0 {
			told(t, "Claim of the last", s.Claim(n-1), api.OK)
		}
	}
}

// TestNewOfANumberThatMayNotBe: P6.1.
func TestNewOfANumberThatMayNotBe(t *testing.T) {
	for _, n := range []int{-1, -2, -1024, 1025, 1026, 2048, 1 << 32, 1<<32 + 5, math.MaxInt, math.MinInt, math.MinInt + 1} {
		if s, e := free.New(n); s != nil || e != api.ErrArg {
			t.Errorf("New(%d) = %v, %d", n, s, e)
		}
	}
}

// TestNewsLiveApart: P6.1, R7.
func TestNewsLiveApart(t *testing.T) {
	one, two := made(t, 4), made(t, 4)
	takes(t, one, 0, 1)
	lists(t, two, 0, 1, 2, 3)
	told(t, "Claim", two.Claim(3), api.OK)
	lists(t, one, 2, 3)
	lists(t, made(t, 4), 0, 1, 2, 3)
}

// TestExamples: the chapter's.
func TestExamples(t *testing.T) {
	s := made(t, 3)
	takes(t, s, 0, 1)
	told(t, "Give(0)", s.Give(0), api.OK)
	takes(t, s, 0, 2)
	isFull(t, s)

	s = made(t, 3)
	told(t, "Claim(1)", s.Claim(1), api.OK)
	told(t, "Claim(1)", s.Claim(1), api.ErrNone)
	told(t, "Give(2)", s.Give(2), api.ErrThere)
	lists(t, s, 0, 2)

	s = made(t, 0)
	isFull(t, s)
	told(t, "Give(0)", s.Give(0), api.ErrArg)
}

// TestTakeAll: P6.2, P6.4, of each number of places: they rise, and then it is full, however often it is asked.
func TestTakeAll(t *testing.T) {
	for n := 0; n <= 1024; n++ {
		s := made(t, n)
		takes(t, s, upTo(n)...)
		isFull(t, s)
		isFull(t, s)
		lists(t, s)
	}
}

// TestFullStaysWhole: P6.2, R2, a Take that is refused changes nothing.
func TestFullStaysWhole(t *testing.T) {
	s := made(t, 3)
	takes(t, s, 0, 1, 2)
	isFull(t, s)
	told(t, "Give", s.Give(1), api.OK)
	lists(t, s, 1)
	takes(t, s, 1)
	isFull(t, s)
	for at := range 3 {
		told(t, "Claim", s.Claim(at), api.ErrNone)
		told(t, "Give", s.Give(at), api.OK)
	}
	lists(t, s, 0, 1, 2)
}

// TestPlacesThatAreNone: P6.2, ErrArg of Claim and Give, whatever is free; nothing has changed.
func TestPlacesThatAreNone(t *testing.T) {
	for _, n := range []int{0, 1, 2, 5, 60, 1023, 1024} {
		s := made(t, n)
		for _, taken := range []int{0, n / 2, n} {
			left := s.Copy()
			for at := range taken {
				told(t, "Claim", left.Claim(at), api.OK)
			}
			for _, at := range outside(n) {
				told(t, "Claim", left.Claim(at), api.ErrArg)
				told(t, "Give", left.Give(at), api.ErrArg)
			}
			lists(t, left, upTo(n)[taken:]...)
		}
	}
}

// TestTwice: P6.2, a place that is claimed twice, given twice, claimed behind a Take, taken behind a Give, given and claimed again; nothing changes with an error.
func TestTwice(t *testing.T) {
	for _, n := range []int{1, 2, 3, 60, 1024} {
		for _, at := range []int{0, n / 3, n / 2, n - 1} {
			s := made(t, n)
			told(t, "Give of what is free", s.Give(at), api.ErrThere)
			lists(t, s, upTo(n)...)
			told(t, "Claim", s.Claim(at), api.OK)
			lists(t, s, without(n, at)...)
			for range 2 {
				told(t, "Claim again", s.Claim(at), api.ErrNone)
				lists(t, s, without(n, at)...)
			}
			told(t, "Give", s.Give(at), api.OK)
			lists(t, s, upTo(n)...)
			for range 2 {
				told(t, "Give again", s.Give(at), api.ErrThere)
				lists(t, s, upTo(n)...)
			}
			told(t, "Claim behind a Give", s.Claim(at), api.OK)
			lists(t, s, without(n, at)...)
		}
	}
}

// TestClaimBehindATake: P6.2, what is taken is free no more to either call; what is claimed is not taken.
func TestClaimBehindATake(t *testing.T) {
	s := made(t, 4)
	takes(t, s, 0)
	told(t, "Claim(0)", s.Claim(0), api.ErrNone)
	told(t, "Claim(1)", s.Claim(1), api.OK)
	told(t, "Claim(2)", s.Claim(2), api.OK)
	takes(t, s, 3)
	isFull(t, s)
	told(t, "Give(2)", s.Give(2), api.OK)
	takes(t, s, 2)
	told(t, "Give(1)", s.Give(1), api.OK)
	told(t, "Give(3)", s.Give(3), api.OK)
	told(t, "Claim(1)", s.Claim(1), api.OK)
	takes(t, s, 3)
	isFull(t, s)
}

// TestEachSubset: P6.2, P6.3, P6.4, P6.5: which places are claimed, in rising and falling order, of small spaces; then they are taken, and given back.
func TestEachSubset(t *testing.T) {
	for n := range 9 {
		for set := range 1 << n {
			var in, out []int
			for at := range n {
				if set>>at&1 == 1 {
					in = append(in, at)
				} else {
					out = append(out, at)
				}
			}
			back := slices.Clone(in)
			slices.Reverse(back)
			for _, order := range [][]int{in, back} {
				s := made(t, n)
				for _, at := range order {
					told(t, "Claim", s.Claim(at), api.OK)
				}
				lists(t, s, out...)
				takes(t, s, out...)
				isFull(t, s)
				for _, at := range order {
					told(t, "Give", s.Give(at), api.OK)
				}
				lists(t, s, in...)
				takes(t, s, in...)
				isFull(t, s)
			}
		}
	}
}

// permutations: each order of the numbers 0 to n - 1 is handed to do.
func permutations(n int, do func([]int)) {
	var more func(order, left []int)
	more = func(order, left []int) {
		if len(left) == 0 {
			do(order)
		}
		for i := range left {
			more(append(slices.Clone(order), left[i]), slices.Delete(slices.Clone(left), i, i+1))
		}
	}
	more(nil, upTo(n))
}

// TestGiveInEachOrder: P6.5, and P6.4 behind each Give: the least of those that were given is taken.
func TestGiveInEachOrder(t *testing.T) {
	permutations(6, func(order []int) {
		s := made(t, 6)
		takes(t, s, upTo(6)...)
		for i, at := range order {
			told(t, "Give", s.Give(at), api.OK)
			there := slices.Clone(order[:i+1])
			slices.Sort(there)
			lists(t, s, there...)
			apart := s.Copy()
			takes(t, apart, there...)
			isFull(t, apart)
		}
		takes(t, s, upTo(6)...)
		isFull(t, s)
	})
}

// TestClaimInEachOrder: P6.2, P6.4: behind each Claim the others are taken as they rise.
func TestClaimInEachOrder(t *testing.T) {
	permutations(6, func(order []int) {
		s := made(t, 6)
		for i, at := range order {
			told(t, "Claim", s.Claim(at), api.OK)
			apart := s.Copy()
			takes(t, apart, without(6, order[:i+1]...)...)
			isFull(t, apart)
			lists(t, s, without(6, order[:i+1]...)...)
		}
		isFull(t, s)
	})
}

// TestGiveInAnyOrderOfGreatSpaces: P6.5.
func TestGiveInAnyOrderOfGreatSpaces(t *testing.T) {
	r := numbers(1)
	for _, n := range []int{60, 1023, 1024} {
		for range 10 {
			s := made(t, n)
			takes(t, s, upTo(n)...)
			for _, at := range r.Perm(n) {
				told(t, "Give", s.Give(at), api.OK)
			}
			lists(t, s, upTo(n)...)
			for _, at := range r.Perm(n) {
				told(t, "Claim", s.Claim(at), api.OK)
			}
			isFull(t, s)
			for _, at := range r.Perm(n) {
				told(t, "Give", s.Give(at), api.OK)
			}
			takes(t, s, upTo(n)...)
		}
	}
}

// TestGiveAndTakeBetween: P6.4, P6.5: what is given between Takes is the next to be taken, if it is the least.
func TestGiveAndTakeBetween(t *testing.T) {
	s := made(t, 6)
	takes(t, s, 0, 1, 2, 3)
	told(t, "Give(2)", s.Give(2), api.OK)
	told(t, "Give(1)", s.Give(1), api.OK)
	takes(t, s, 1)
	told(t, "Give(0)", s.Give(0), api.OK)
	takes(t, s, 0, 2, 4)
	told(t, "Give(4)", s.Give(4), api.OK)
	told(t, "Give(3)", s.Give(3), api.OK)
	takes(t, s, 3, 4, 5)
	isFull(t, s)
	for _, at := range []int{5, 0, 3, 1, 4, 2} {
		told(t, "Give", s.Give(at), api.OK)
	}
	lists(t, s, 0, 1, 2, 3, 4, 5)
}

// TestEachStep: P6.1 to P6.5: each row of up to five calls, of spaces of up to three places, held against the chapter's words.
func TestEachStep(t *testing.T) {
	for n := range 4 {
		steps := []func(pair){func(x pair) { x.take(t) }}
		for at := -1; at <= n; at++ {
			steps = append(steps, func(x pair) { x.claim(t, at) }, func(x pair) { x.give(t, at) })
		}
		var more func(x pair, left int)
		more = func(x pair, left int) {
			x.alike(t)
			if left == 0 || t.Failed() {
				return
			}
			for _, step := range steps {
				next := x.copied()
				step(next)
				more(next, left-1)
			}
			x.alike(t)
		}
		more(newPair(t, n), 5)
	}
}

// TestAgainstPlain: P6.1 to P6.5: long rows of calls, some of which may not be, of small spaces and great ones; with copies that go on by themselves.
func TestAgainstPlain(t *testing.T) {
	r := numbers(2)
	for _, n := range []int{0, 1, 2, 3, 5, 8, 31, 60, 100, 1023, 1024} {
		for range 6 {
			x := newPair(t, n)
			var left []pair
			for range 2000 {
				at := r.IntN(n+2) - 1
				switch k := r.IntN(40); {
				case k < 14:
					x.take(t)
				case k < 22:
					x.claim(t, at)
				case k < 38:
					x.give(t, at)
				case k == 38 && len(left) < 5:
					left = append(left, x)
					x = x.copied()
				case len(left) > 0: // the copy and its original change their parts
					i := r.IntN(len(left))
					x, left[i] = left[i], x
				}
			}
			for _, y := range append(left, x) {
				y.alike(t)
				for range y.s.Free() + 1 {
					y.take(t)
				}
			}
		}
	}
}

// TestTakeIsTheLeastOfList: P6.4, whatever was done ahead.
func TestTakeIsTheLeastOfList(t *testing.T) {
	r := numbers(3)
	s := made(t, 200)
	for range 20000 {
		switch at := r.IntN(200); r.IntN(3) {
		case 0:
			s.Claim(at)
		case 1:
			s.Give(at)
		default:
			l := s.List()
			if len(l) == 0 {
				isFull(t, s)
				continue
			}
			takes(t, s, l[0])
			lists(t, s, l[1:]...)
		}
	}
}

// TestCopy: P6.3, the same places are free, and what is changed in one is not in the other, whichever of them it is.
func TestCopy(t *testing.T) {
	for _, n := range []int{0, 1, 2, 7, 60, 1024} {
		s := made(t, n)
		for at := 0; at < n; at += 3 {
			told(t, "Claim", s.Claim(at), api.OK)
		}
		was := s.List()
		one, two := s.Copy(), s.Copy()
		lists(t, one, was...)
		takes(t, one, was...)
		isFull(t, one)
		lists(t, s, was...)
		for at := 0; at < n; at += 3 {
			told(t, "Give", s.Give(at), api.OK)
		}
		lists(t, s, upTo(n)...)
		takes(t, s, upTo(n)...)
		lists(t, two, was...)
		told(t, "Claim of none", two.Claim(n), api.ErrArg)
		isFull(t, one)
		lists(t, one)
		for at := 0; at < n; at += 3 {
			told(t, "Give of the copy", two.Give(at), api.OK)
		}
		lists(t, two, upTo(n)...)
		isFull(t, s)
	}
}

// TestCopyOfACopy: P6.3.
func TestCopyOfACopy(t *testing.T) {
	s := made(t, 3)
	takes(t, s, 0)
	one := s.Copy()
	takes(t, one, 1)
	two := one.Copy()
	takes(t, two, 2)
	isFull(t, two)
	lists(t, one, 2)
	lists(t, s, 1, 2)
	told(t, "Give", two.Give(0), api.OK)
	told(t, "Give", two.Give(1), api.OK)
	lists(t, two, 0, 1)
	lists(t, one, 2)
	lists(t, s, 1, 2)
}

// TestListIsNewMemory: P6.3, R3.
func TestListIsNewMemory(t *testing.T) {
	for _, n := range []int{1, 3, 1024} {
		s := made(t, n)
		one, two := s.List(), s.List()
		for i := range one {
			one[i] = 77777
		}
		if !slices.Equal(two, upTo(n)) {
			t.Errorf("another List is %d", two)
		}
		lists(t, s, upTo(n)...)
		told(t, "Claim", s.Claim(n-1), api.OK)
		if !slices.Equal(two, upTo(n)) {
			t.Errorf("a List of old is %d", two)
		}
		two = append(two[:0], two[n:]...)
		lists(t, s, upTo(n-1)...)
		takes(t, s, upTo(n-1)...)
		isFull(t, s)
	}
}

// TestListIsOnlyALook: P6.3, List, Free and Copy change nothing, of a line that is out of order, too.
func TestListIsOnlyALook(t *testing.T) {
	r := numbers(4)
	s := made(t, 50)
	takes(t, s, upTo(50)...)
	var given []int
	for _, at := range r.Perm(50)[:40] {
		told(t, "Give", s.Give(at), api.OK)
		given = append(given, at)
		slices.Sort(given)
		lists(t, s, given...)
		lists(t, s, given...)
		lists(t, s.Copy(), given...)
		lists(t, s, given...)
	}
	takes(t, s, given...)
	isFull(t, s)
}

// TestNone: ErrNil goes ahead of all, whatever is asked; and P6.3 of none: 0, no place, nil. None is a space that New did not make, too.
func TestNone(t *testing.T) {
	for _, s := range []*free.Space{nil, {}, new(free.Space)} {
		for range 2 {
			if at, e := s.Take(); at != 0 || e != api.ErrNil {
				t.Errorf("Take = %d, %d", at, e)
			}
			for _, at := range append(outside(0), 1, 5, 1023) {
				told(t, "Claim", s.Claim(at), api.ErrNil)
				told(t, "Give", s.Give(at), api.ErrNil)
			}
			if l := s.List(); len(l) != 0 || s.Free() != 0 {
				t.Errorf("List = %d, Free = %d", l, s.Free())
			}
			if c := s.Copy(); c != nil {
				t.Errorf("Copy = %v", c)
			}
		}
	}
}

// TestSpaceOfNoPlace: P6.1, P6.2: it is a space, not none; so is its copy.
func TestSpaceOfNoPlace(t *testing.T) {
	s := made(t, 0)
	for _, x := range []*free.Space{s, s.Copy(), s.Copy().Copy()} {
		if x == nil {
			t.Fatal("Copy is nil")
		}
		isFull(t, x)
		lists(t, x)
		for _, at := range outside(0) {
			told(t, "Claim", x.Claim(at), api.ErrArg)
			told(t, "Give", x.Give(at), api.ErrArg)
		}
		isFull(t, x)
	}
}
