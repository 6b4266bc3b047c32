package knot_test

import (
	"math"
	"math/rand/v2"
	"slices"
	"testing"

	"cistern/api"
	"cistern/knot"
)

const greatest = math.MaxUint64

// edges: numbers at which something may wrap, or be taken for another kind of number.
var edges = []uint64{0, 1, 2, 7, 8, 255, 256, 1<<31 - 1, 1 << 31, 1<<32 - 1, 1 << 32, 1<<63 - 1, 1 << 63, 1<<63 + 1, greatest - 1, greatest}

// numbers: the same pseudo-random numbers in each run.
func numbers(seed uint64) *rand.Rand { return rand.New(rand.NewPCG(10, seed)) }

// couple: a pair. A list of couples is what a node is by the chapter's words, but for its kind.
type couple struct{ key, val uint64 }

// couples: n of them, with keys that rise from first on, and values that are none of the keys.
func couples(n int, first uint64) []couple {
	var l []couple
	for i := range uint64(n) {
		l = append(l, couple{first + 3*i, 1<<40 - 7*i})
	}
	return l
}

// of: the node of these couples.
func of(leaf bool, l []couple) api.Node {
	n := api.Node{Leaf: leaf}
	for _, c := range l {
		n.Keys = append(n.Keys, c.key)
		n.Vals = append(n.Vals, c.val)
	}
	return n
}

// byKeys: couples of these keys, each with a value of its own.
func byKeys(keys ...uint64) []couple {
	var l []couple
	for i, key := range keys {
		l = append(l, couple{key, 1000 + uint64(i)})
	}
	return l
}

// raggeds: nodes of these couples, with nothing, keys, or values behind them; what stands there would be seen in each answer.
func raggeds(leaf bool, l []couple) []api.Node {
	n, more, fewer, many := of(leaf, l), of(leaf, l), of(leaf, l), of(leaf, l)
	more.Keys = append(more.Keys, 0)
	fewer.Vals = append(fewer.Vals, greatest)
	for i := range uint64(300) {
		many.Keys = append(many.Keys, greatest-i)
	}
	return []api.Node{n, more, fewer, many}
}

// kinds: both of them.
func kinds() []bool { return []bool{true, false} }

// places: those of n couples, and such as are none: below 0, behind the last, and both ends of the ints.
func places(n int) []int {
	l := []int{math.MinInt, math.MinInt + 1, -1 << 32, -1<<31 - 1, -n - 1, -n, -3, -2, -1}
	for at := range n + 3 {
		l = append(l, at)
	}
	return append(l, n+255, 1<<31-1, 1<<31, 1<<32-1, 1<<32, 1<<32+1, math.MaxInt-1, math.MaxInt)
}

// plainFind: what Find should tell.
func plainFind(l []couple, key uint64) (int, bool) {
	below := 0
	for below < len(l) && l[below].key < key {
		below++
	}
	return below, below < len(l) && l[below].key == key
}

// plainChild: what Child should tell.
func plainChild(l []couple, key uint64) int {
	last := 0
	for at, c := range l {
		if c.key > key {
			break
		}
		last = at
	}
	return last
}

// plainInsert, plainSet, plainRemove: what these should make.
func plainInsert(l []couple, at int, c couple) []couple {
	switch {
	case at < 0:
		at = 0
	case at > len(l):
		at = len(l)
	}
	return slices.Insert(slices.Clone(l), at, c)
}

func plainSet(l []couple, at int, c couple) []couple {
	own := slices.Clone(l)
	for i := range own {
		if i == at {
			own[i] = c
		}
	}
	return own
}

func plainRemove(l []couple, at int) []couple {
	var own []couple
	for i, c := range l {
		if i != at {
			own = append(own, c)
		}
	}
	return own
}

// plainSplit: what Split should make: couples go from the end to the second half as long as the first stays the longer one, or as long.
func plainSplit(l []couple) ([]couple, []couple) {
	first, second := slices.Clone(l), []couple(nil)
	for len(first) > len(second)+1 {
		last := len(first) - 1
		second = slices.Insert(second, 0, first[last])
		first = first[:last]
	}
	return first, second
}

// alike: whether a node is of that kind, and of just these couples.
func alike(n api.Node, leaf bool, l []couple) bool {
	want := of(leaf, l)
	return n.Leaf == leaf && slices.Equal(n.Keys, want.Keys) && slices.Equal(n.Vals, want.Vals)
}

// is: that a node is of that kind, and of just these couples.
func is(t *testing.T, what string, n api.Node, leaf bool, l []couple) {
	t.Helper()
	if !alike(n, leaf, l) {
		t.Fatalf("%s = %v, want %v", what, n, of(leaf, l))
	}
}

// found: what Find and Child tell of a key.
func found(t *testing.T, n api.Node, key uint64, at int, there bool, child int) {
	t.Helper()
	if got, ok := knot.Find(n, key); got != at || ok != there {
		t.Errorf("Find of %v, %d = %d, %t, want %d, %t", n, key, got, ok, at, there)
	}
	if got := knot.Child(n, key); got != child {
		t.Errorf("Child of %v, %d = %d, want %d", n, key, got, child)
	}
}

// changes: what Insert, Set and Remove make of a node of these couples, at that place.
func changes(t *testing.T, n api.Node, l []couple, at int, c couple) {
	t.Helper()
	is(t, "Insert", knot.Insert(n, at, c.key, c.val), n.Leaf, plainInsert(l, at, c))
	is(t, "Set", knot.Set(n, at, c.key, c.val), n.Leaf, plainSet(l, at, c))
	is(t, "Remove", knot.Remove(n, at), n.Leaf, plainRemove(l, at))
}

// halves: that a and b are the halves of these couples.
func halves(t *testing.T, what string, a, b api.Node, leaf bool, l []couple) {
	t.Helper()
	first, second := plainSplit(l)
	is(t, what+", the first", a, leaf, first)
	is(t, what+", the second", b, leaf, second)
}

// together: what Join and Even make of nodes a and b, of these couples.
func together(t *testing.T, a, b api.Node, first, second []couple) {
	t.Helper()
	is(t, "Join", knot.Join(a, b), a.Leaf, slices.Concat(first, second))
	one, two := knot.Even(a, b)
	halves(t, "Even", one, two, a.Leaf, slices.Concat(first, second))
}

// lists: each list of up to so many of these numbers.
func lists(of []uint64, most int) [][]uint64 {
	all := [][]uint64{nil}
	last := all
	for range most {
		var next [][]uint64
		for _, l := range last {
			for _, x := range of {
				next = append(next, append(slices.Clone(l), x))
			}
		}
		all = append(all, next...)
		last = next
	}
	return all
}

// TestFindByHand: P10.1, told without a rule: keys that rise, that are equal, that fall, and that do this and that.
func TestFindByHand(t *testing.T) {
	for _, x := range []struct {
		keys  []uint64
		key   uint64
		at    int
		there bool
		child int
	}{
		{nil, 0, 0, false, 0},
		{nil, greatest, 0, false, 0},
		{[]uint64{0}, 0, 0, true, 0},
		{[]uint64{0}, greatest, 1, false, 0},
		{[]uint64{greatest}, 0, 0, false, 0},
		{[]uint64{greatest}, greatest, 0, true, 0},
		{[]uint64{0, greatest}, 0, 0, true, 0},
		{[]uint64{0, greatest}, greatest - 1, 1, false, 0},
		{[]uint64{0, greatest}, greatest, 1, true, 1},
		{[]uint64{1<<63 - 1, 1 << 63}, 1 << 63, 1, true, 1},
		{[]uint64{4, 6, 8, 10}, 3, 0, false, 0},
		{[]uint64{4, 6, 8, 10}, 8, 2, true, 2},
		{[]uint64{4, 6, 8, 10}, 9, 3, false, 2},
		{[]uint64{4, 6, 8, 10}, 11, 4, false, 3},
		{[]uint64{5, 5, 5}, 4, 0, false, 0},
		{[]uint64{5, 5, 5}, 5, 0, true, 2},
		{[]uint64{5, 5, 5}, 6, 3, false, 2},
		{[]uint64{3, 5, 5, 7}, 5, 1, true, 2},
		{[]uint64{9, 5, 1}, 5, 0, false, 0},
		{[]uint64{9, 5, 1}, 1, 0, false, 0},
		{[]uint64{9, 5, 1}, 9, 0, true, 2},
		{[]uint64{9, 5, 1}, 10, 3, false, 2},
		{[]uint64{1, 9, 2, 5}, 5, 1, false, 0},
		{[]uint64{1, 9, 2, 5}, 2, 1, false, 0},
		{[]uint64{1, 9, 2, 5}, 9, 1, true, 3},
		{[]uint64{2, 1, 9, 3}, 4, 2, false, 1},
		{[]uint64{2, 1, 9, 3}, 1, 0, false, 0},
		{[]uint64{2, 1, 9, 3}, 3, 2, false, 1},
		{[]uint64{2, 5, 3, 9, 4}, 5, 1, true, 2},
	} {
		for _, leaf := range kinds() {
			found(t, of(leaf, byKeys(x.keys...)), x.key, x.at, x.there, x.child)
		}
	}
}

// TestFindOfAllSmall: P10.1: each list of up to five keys of a few, that rise or do not, with more keys than values, and fewer, too; each key that may be asked.
func TestFindOfAllSmall(t *testing.T) {
	for _, keys := range lists([]uint64{0, 1, 3, greatest}, 5) {
		l := byKeys(keys...)
		for _, leaf := range kinds() {
			for _, n := range raggeds(leaf, l) {
				for _, key := range []uint64{0, 1, 2, 3, 4, greatest - 1, greatest} {
					at, there := plainFind(l, key)
					found(t, n, key, at, there, plainChild(l, key))
				}
			}
		}
	}
}

// TestFindAtTheEdges: P10.1: keys are numbers without a sign, of all 64 bits.
func TestFindAtTheEdges(t *testing.T) {
	n := of(true, byKeys(edges...))
	for i, key := range edges {
		found(t, n, key, i, true, i)
		for _, other := range edges {
			l := byKeys(key)
			at, there := plainFind(l, other)
			found(t, of(false, l), other, at, there, 0)
		}
	}
}

// TestFindByNumber: P10.1: of each number of pairs: each of its keys, and those beside it.
func TestFindByNumber(t *testing.T) {
	for n := range 300 {
		l := couples(n, 3)
		x := of(n%2 == 0, l)
		for i, c := range l {
			found(t, x, c.key, i, true, i)
			found(t, x, c.key-1, i, false, max(i-1, 0))
			found(t, x, c.key+1, i+1, false, i)
		}
		found(t, x, 0, 0, false, 0)
		found(t, x, greatest, n, false, max(n-1, 0))
	}
}

// TestFindBehindTheValues: P10.1: a key that has no value is no pair's: it is neither found nor counted, and stops nothing.
func TestFindBehindTheValues(t *testing.T) {
	for _, leaf := range kinds() {
		x := api.Node{Leaf: leaf, Keys: []uint64{2, 4, 6}, Vals: []uint64{1}}
		found(t, x, 4, 1, false, 0)
		found(t, x, 6, 1, false, 0)
		found(t, x, 2, 0, true, 0)
		found(t, x, 1, 0, false, 0)
		x.Vals = nil
		found(t, x, 2, 0, false, 0)
		found(t, x, 9, 0, false, 0)
		x = api.Node{Leaf: leaf, Keys: []uint64{2}, Vals: []uint64{1, 4, 6}}
		found(t, x, 4, 1, false, 0)
		found(t, x, 1, 0, false, 0)
		x.Keys = nil
		found(t, x, 0, 0, false, 0)
		found(t, x, 1, 0, false, 0)
	}
}

// TestChangesByHand: P10.2, told without a rule.
func TestChangesByHand(t *testing.T) {
	a, b, c, x := couple{1, 10}, couple{2, 20}, couple{3, 30}, couple{9, 90}
	n := of(true, []couple{a, b, c})
	is(t, "Insert at -1", knot.Insert(n, -1, 9, 90), true, []couple{x, a, b, c})
	is(t, "Insert at 0", knot.Insert(n, 0, 9, 90), true, []couple{x, a, b, c})
	is(t, "Insert at 1", knot.Insert(n, 1, 9, 90), true, []couple{a, x, b, c})
	is(t, "Insert at 2", knot.Insert(n, 2, 9, 90), true, []couple{a, b, x, c})
	is(t, "Insert at 3", knot.Insert(n, 3, 9, 90), true, []couple{a, b, c, x})
	is(t, "Insert at 4", knot.Insert(n, 4, 9, 90), true, []couple{a, b, c, x})
	is(t, "Set at -1", knot.Set(n, -1, 9, 90), true, []couple{a, b, c})
	is(t, "Set at 0", knot.Set(n, 0, 9, 90), true, []couple{x, b, c})
	is(t, "Set at 1", knot.Set(n, 1, 9, 90), true, []couple{a, x, c})
	is(t, "Set at 2", knot.Set(n, 2, 9, 90), true, []couple{a, b, x})
	is(t, "Set at 3", knot.Set(n, 3, 9, 90), true, []couple{a, b, c})
	is(t, "Remove at -1", knot.Remove(n, -1), true, []couple{a, b, c})
	is(t, "Remove at 0", knot.Remove(n, 0), true, []couple{b, c})
	is(t, "Remove at 1", knot.Remove(n, 1), true, []couple{a, c})
	is(t, "Remove at 2", knot.Remove(n, 2), true, []couple{a, b})
	is(t, "Remove at 3", knot.Remove(n, 3), true, []couple{a, b, c})
	is(t, "Insert into none", knot.Insert(api.Node{}, 5, 9, 90), false, []couple{x})
	is(t, "Set of none", knot.Set(api.Node{Leaf: true}, 0, 9, 90), true, nil)
	is(t, "Remove of none", knot.Remove(api.Node{}, 0), false, nil)
	is(t, "Remove of one", knot.Remove(of(false, []couple{a}), 0), false, nil)
}

// TestChangesAtEachPlace: P10.2: of each number of pairs, with more keys than values, and fewer, too: each place, and what is none.
func TestChangesAtEachPlace(t *testing.T) {
	for count := range 20 {
		l := couples(count, 5)
		for _, leaf := range kinds() {
			for _, n := range raggeds(leaf, l) {
				for _, at := range places(count) {
					for _, c := range []couple{{0, 0}, {greatest, 1}, {1, greatest}, {6, 7}, {5, 1 << 40}} {
						changes(t, n, l, at, c)
					}
				}
			}
		}
	}
}

// TestChangesOfAnyKeys: P10.2: keys need not rise, and nothing is sorted; pairs that are the same stay as many as they are.
func TestChangesOfAnyKeys(t *testing.T) {
	for _, keys := range lists([]uint64{0, 5, greatest}, 4) {
		l := byKeys(keys...)
		for at := -1; at <= len(l)+1; at++ {
			for _, c := range []couple{{0, 1}, {5, 1}, {greatest, 0}} {
				changes(t, of(true, l), l, at, c)
				same := slices.Repeat([]couple{c}, len(l))
				changes(t, of(false, same), same, at, c)
			}
		}
	}
}

// TestSplitByHand: P10.3, told without a rule.
func TestSplitByHand(t *testing.T) {
	for _, x := range []struct{ all, first, second []uint64 }{
		{nil, nil, nil},
		{[]uint64{1}, []uint64{1}, nil},
		{[]uint64{1, 2}, []uint64{1}, []uint64{2}},
		{[]uint64{1, 2, 3}, []uint64{1, 2}, []uint64{3}},
		{[]uint64{1, 2, 3, 4}, []uint64{1, 2}, []uint64{3, 4}},
		{[]uint64{4, 4, 1, 9, 0}, []uint64{4, 4, 1}, []uint64{9, 0}},
		{[]uint64{1, 2, 3, 4, 5, 6, 7, 8, 9}, []uint64{1, 2, 3, 4, 5}, []uint64{6, 7, 8, 9}},
	} {
		for _, leaf := range kinds() {
			l := byKeys(x.all...)
			first, second := knot.Split(of(leaf, l))
			is(t, "Split, the first", first, leaf, l[:len(x.first)])
			is(t, "Split, the second", second, leaf, l[len(x.first):])
			if !slices.Equal(first.Keys, x.first) || !slices.Equal(second.Keys, x.second) {
				t.Errorf("Split of %d = %d, %d", x.all, first.Keys, second.Keys)
			}
		}
	}
}

// TestSplitOfEachNumber: P10.3, P10.4: nodes of odd and even numbers of pairs, with more keys than values, and fewer, too.
func TestSplitOfEachNumber(t *testing.T) {
	for count := range 70 {
		l := couples(count, 0)
		slices.Reverse(l[:count/3])
		for _, leaf := range kinds() {
			for _, n := range raggeds(leaf, l) {
				first, second := knot.Split(n)
				halves(t, "Split", first, second, leaf, l)
				is(t, "Join of Split", knot.Join(first, second), leaf, l)
				if d := len(first.Keys) - len(second.Keys); d != count%2 {
					t.Errorf("of %d the halves differ by %d", count, d)
				}
			}
		}
	}
}

// TestJoinByHand: P10.3, told without a rule.
func TestJoinByHand(t *testing.T) {
	a, b, c := couple{3, 30}, couple{1, 10}, couple{2, 20}
	leaf, inner := of(true, []couple{a}), of(false, []couple{b, c})
	is(t, "Join", knot.Join(leaf, inner), true, []couple{a, b, c})
	is(t, "Join", knot.Join(inner, leaf), false, []couple{b, c, a})
	is(t, "Join with none", knot.Join(leaf, api.Node{}), true, []couple{a})
	is(t, "Join of none", knot.Join(api.Node{}, leaf), false, []couple{a})
	is(t, "Join of none with none", knot.Join(api.Node{Leaf: true}, api.Node{}), true, nil)
	is(t, "Join with itself", knot.Join(inner, inner), false, []couple{b, c, b, c})
	one, two := knot.Even(leaf, inner)
	is(t, "Even, the first", one, true, []couple{a, b})
	is(t, "Even, the second", two, true, []couple{c})
	one, two = knot.Even(inner, leaf)
	is(t, "Even, the first", one, false, []couple{b, c})
	is(t, "Even, the second", two, false, []couple{a})
	one, two = knot.Even(api.Node{Leaf: true}, inner)
	is(t, "Even of none, the first", one, true, []couple{b})
	is(t, "Even of none, the second", two, true, []couple{c})
}

// TestJoinAndEvenOfEachNumber: P10.3: of each two numbers of pairs, of like kinds and unlike ones, with more keys than values, and fewer, in either node or in both.
func TestJoinAndEvenOfEachNumber(t *testing.T) {
	for i := range 12 {
		for j := range 12 {
			first, second := couples(i, 7), couples(j, 1<<50)
			for kind := range 4 {
				for _, a := range raggeds(kind&1 == 0, first) {
					for _, b := range raggeds(kind&2 == 0, second) {
						together(t, a, b, first, second)
						together(t, b, a, second, first)
					}
				}
			}
		}
	}
}

// TestLongLists: P10.1 to P10.3, R1: nodes of far more pairs than a node of a tree may have.
func TestLongLists(t *testing.T) {
	l := couples(1<<16+1, 0)
	n := of(true, l)
	for _, at := range []int{-1, 0, 255, 256, 1 << 15, 1 << 16, 1<<16 + 1, 1 << 17} {
		changes(t, n, l, at, couple{1, 2})
	}
	first, second := knot.Split(n)
	halves(t, "Split", first, second, true, l)
	together(t, n, second, l, l[1<<15+1:])
	found(t, n, l[1<<16].key, 1<<16, true, 1<<16)
	found(t, n, l[1<<15].key+1, 1<<15+1, false, 1<<15)
}

// nones: lists without numbers; behind some of them there is room.
func nones() [][]uint64 {
	l := []uint64{1, 2}
	return [][]uint64{nil, {}, l[:0], l[1:1], l[2:]}
}

// TestOfNone: R1, R4: nodes without pairs, whichever lists they have, or with one list alone, to each call.
func TestOfNone(t *testing.T) {
	for _, none := range nones() {
		for _, other := range append(nones(), []uint64{7}, []uint64{0, 1, 2}) {
			for _, n := range []api.Node{{Leaf: true, Keys: none, Vals: other}, {Leaf: true, Keys: other, Vals: none}} {
				for _, key := range edges {
					found(t, n, key, 0, false, 0)
				}
				for _, at := range places(0) {
					changes(t, n, nil, at, couple{7, 8})
				}
				first, second := knot.Split(n)
				halves(t, "Split", first, second, true, nil)
				for _, l := range [][]couple{nil, couples(1, 5), couples(2, 5), couples(5, 5)} {
					together(t, n, of(false, l), nil, l)
					together(t, of(false, l), n, l, nil)
				}
			}
		}
	}
}

// TestRisingKeys: P10.4: Find tells where a key stands, or is to be put; Insert there leaves the keys rising, and Remove there gives the node back.
func TestRisingKeys(t *testing.T) {
	g := numbers(1)
	for range 3000 {
		l := rising(g, g.IntN(12))
		n := of(g.IntN(2) == 0, l)
		key, val := some(g), some(g)
		at, there := knot.Find(n, key)
		if there != slices.ContainsFunc(l, func(c couple) bool { return c.key == key }) {
			t.Errorf("Find of %v, %d tells %t", n, key, there)
		}
		if there {
			is(t, "Set with a key that is there", knot.Set(n, at, key, n.Vals[at]), n.Leaf, l)
			continue
		}
		more := knot.Insert(n, at, key, val)
		if !slices.IsSorted(more.Keys) || len(slices.Compact(slices.Clone(more.Keys))) != len(l)+1 {
			t.Errorf("Insert of %d made %v of %v", key, more, n)
		}
		if got, ok := knot.Find(more, key); got != at || !ok || more.Vals[at] != val {
			t.Errorf("Find of what was inserted = %d, %t", got, ok)
		}
		is(t, "Remove of what was inserted", knot.Remove(more, at), n.Leaf, l)
	}
}

// TestBack: P10.4: at each place Remove of what was inserted is the node, and Set of what was there gives it back.
func TestBack(t *testing.T) {
	for count := range 20 {
		l := couples(count, 4)
		n := of(count%2 == 0, l)
		for at := range count + 1 {
			is(t, "Remove of what was inserted", knot.Remove(knot.Insert(n, at, 4, 9), at), n.Leaf, l)
			if at < count {
				is(t, "Set of what was there", knot.Set(knot.Set(n, at, 0, 9), at, l[at].key, l[at].val), n.Leaf, l)
				is(t, "Insert of what was removed", knot.Insert(knot.Remove(n, at), at, l[at].key, l[at].val), n.Leaf, l)
			}
		}
		for at := range count + 1 {
			one, two := knot.Even(of(n.Leaf, l[:at]), of(n.Leaf, l[at:]))
			halves(t, "Even", one, two, n.Leaf, l)
			is(t, "Join of Even", knot.Join(one, two), n.Leaf, l)
		}
	}
}

// some: a number of any kind.
func some(g *rand.Rand) uint64 {
	switch g.IntN(3) {
	case 0:
		return edges[g.IntN(len(edges))]
	case 1:
		return g.Uint64N(30)
	}
	return g.Uint64()
}

// rising: n couples with keys that rise.
func rising(g *rand.Rand, n int) []couple {
	seen := map[uint64]bool{}
	var keys []uint64
	for len(keys) < n {
		if key := some(g); !seen[key] {
			seen[key] = true
			keys = append(keys, key)
		}
	}
	slices.Sort(keys)
	return byKeys(keys...)
}

// anything: n couples of any numbers, with keys that rise, or do not.
func anything(g *rand.Rand, n int) []couple {
	if g.IntN(2) == 0 {
		return rising(g, n)
	}
	var l []couple
	for range n {
		l = append(l, couple{some(g), some(g)})
	}
	return l
}

// TestAgainstPlain: P10.1 to P10.3: any nodes, whose answers go on to be the next node, held against the chapter's words.
func TestAgainstPlain(t *testing.T) {
	g := numbers(2)
	for range 300 {
		l := anything(g, g.IntN(20))
		n := of(g.IntN(2) == 0, l)
		leaf := n.Leaf
		for range 60 {
			at, c := g.IntN(len(l)+4)-2, couple{some(g), some(g)}
			where, there := plainFind(l, c.key)
			found(t, n, c.key, where, there, plainChild(l, c.key))
			changes(t, n, l, at, c)
			switch g.IntN(8) {
			case 0, 1, 2:
				n, l = knot.Insert(n, at, c.key, c.val), plainInsert(l, at, c)
			case 3:
				n, l = knot.Set(n, at, c.key, c.val), plainSet(l, at, c)
			case 4, 5:
				n, l = knot.Remove(n, at), plainRemove(l, at)
			case 6:
				one, two := knot.Split(n)
				first, second := plainSplit(l)
				n, l = knot.Join(two, one), slices.Concat(second, first)
			default:
				more := anything(g, g.IntN(6))
				b := raggeds(g.IntN(2) == 0, more)[g.IntN(4)]
				together(t, n, b, l, more)
				n, _ = knot.Even(n, b)
				l, _ = plainSplit(slices.Concat(l, more))
			}
			is(t, "what it has become", n, leaf, l)
		}
	}
}

// roomy: a node of these couples, and n keys and values in the room behind its lists; and all of their memory.
func roomy(leaf bool, l []couple, n int) (api.Node, [2][]uint64) {
	x := of(leaf, l)
	keys, vals := slices.Clip(x.Keys), slices.Clip(x.Vals)
	for i := range uint64(n) {
		keys, vals = append(keys, 500+i), append(vals, 600+i)
	}
	return api.Node{Leaf: leaf, Keys: keys[:len(l)], Vals: vals[:len(l)]}, [2][]uint64{keys, vals}
}

// each: every answer that a node can lead to: the nodes that each call makes of it, and of it with another one.
func each(n, other api.Node, at int) []api.Node {
	first, second := knot.Split(n)
	one, two := knot.Even(n, other)
	three, four := knot.Even(other, n)
	return []api.Node{
		knot.Insert(n, at, 3, 4), knot.Set(n, at, 3, 4), knot.Remove(n, at),
		first, second, knot.Join(n, other), knot.Join(other, n), one, two, three, four,
	}
}

// scribbled: all of a list is written over, its room too.
func scribbled(l []uint64) {
	l = l[:cap(l)]
	for i := range l {
		l[i] ^= 0x5a5a
	}
}

// spoiled: all that a node has is written over.
func spoiled(n api.Node) {
	scribbled(n.Keys)
	scribbled(n.Vals)
}

// cloned: the same nodes, in memory of their own.
func cloned(l []api.Node) []api.Node {
	var own []api.Node
	for _, n := range l {
		own = append(own, api.Node{Leaf: n.Leaf, Keys: slices.Clone(n.Keys), Vals: slices.Clone(n.Vals)})
	}
	return own
}

// sameNodes: that nodes are what they were.
func sameNodes(t *testing.T, what string, l, was []api.Node) {
	t.Helper()
	for i, n := range l {
		if n.Leaf != was[i].Leaf || !slices.Equal(n.Keys, was[i].Keys) || !slices.Equal(n.Vals, was[i].Vals) {
			t.Fatalf("%s: %d: %v has become %v", what, i, was[i], n)
		}
	}
}

// TestHandedInStays: R3: what is handed in, and what stands in its room, is as it was behind each call, and behind whatever is done to its answers.
func TestHandedInStays(t *testing.T) {
	for count := range 10 {
		for room := range 4 {
			for at := -1; at <= count+1; at++ {
				n, all := roomy(true, couples(count, 8), room)
				other, more := roomy(false, couples(room, 99), 3)
				memory := [][]uint64{all[0], all[1], more[0], more[1]}
				var was [][]uint64
				for _, l := range memory {
					was = append(was, slices.Clone(l))
				}
				for _, key := range []uint64{0, 8, 9, greatest} {
					knot.Find(n, key)
					knot.Child(n, key)
				}
				for _, x := range each(n, other, at) {
					x.Keys, x.Vals = append(x.Keys, 7), append(x.Vals, 7)
					spoiled(x)
				}
				for i, l := range memory {
					if !slices.Equal(l, was[i]) {
						t.Fatalf("%d has become %d", was[i], l)
					}
				}
			}
		}
	}
}

// TestAnswersLiveApart: R3: what is done to what was handed in changes no answer, nor does what is done to another answer, or to the one list of it the other.
func TestAnswersLiveApart(t *testing.T) {
	for count := range 10 {
		for at := -1; at <= count+1; at++ {
			n, all := roomy(count%2 == 0, couples(count, 8), 3)
			other, more := roomy(false, couples(at+1, 99), 2)
			l := append(each(n, other, at), each(n, n, at)...)
			was := cloned(l)
			for _, memory := range [][]uint64{all[0], all[1], more[0], more[1]} {
				scribbled(memory)
			}
			sameNodes(t, "behind what was handed in", l, was)
			for i, x := range l {
				scribbled(x.Keys)
				if !slices.Equal(x.Vals, was[i].Vals) {
					t.Fatalf("the keys and the values of %v share memory", was[i])
				}
				scribbled(x.Vals)
				sameNodes(t, "behind another answer", l[i+1:], was[i+1:])
			}
			l = append(each(n, other, at), each(n, n, at)...)
			was = cloned(l)
			for i := len(l) - 1; i >= 0; i-- {
				spoiled(l[i])
				sameNodes(t, "behind another answer", l[:i], was[:i])
			}
		}
	}
}

// TestHalvesLiveApart: R3 and the chapter's ways: an append to the one half changes nothing in the other; nor does another pair in it.
func TestHalvesLiveApart(t *testing.T) {
	for count := range 30 {
		l := couples(count, 2)
		cuts := []func() (api.Node, api.Node){
			func() (api.Node, api.Node) { return knot.Split(of(true, l)) },
			func() (api.Node, api.Node) { return knot.Even(of(true, l[:count/3]), of(false, l[count/3:])) },
		}
		for _, cut := range cuts {
			for _, more := range []int{1, 2, 5, count, 3 * count} {
				first, second := cut()
				for range more {
					first.Keys, first.Vals = append(first.Keys, 77), append(first.Vals, 78)
				}
				spoiled(first)
				_, want := plainSplit(l)
				is(t, "the second half", second, true, want)
				first, second = cut()
				for range more {
					second.Keys, second.Vals = append(second.Keys, 77), append(second.Vals, 78)
				}
				spoiled(second)
				want, _ = plainSplit(l)
				is(t, "the first half", first, true, want)
			}
		}
	}
}

// TestListsThatAreOne: R3: a node whose keys and values stand in one memory, and two nodes that do.
func TestListsThatAreOne(t *testing.T) {
	for count := range 12 {
		keys := make([]uint64, 0, 2*count)
		for i := range uint64(count) {
			keys = append(keys, 10+i)
		}
		var l []couple
		for _, key := range keys {
			l = append(l, couple{key, key})
		}
		n := api.Node{Leaf: true, Keys: keys, Vals: keys}
		for _, at := range places(count) {
			changes(t, n, l, at, couple{1, 2})
		}
		first, second := knot.Split(n)
		halves(t, "Split", first, second, true, l)
		for _, x := range []api.Node{first, second} {
			was := slices.Clone(x.Vals)
			scribbled(x.Keys)
			if !slices.Equal(x.Vals, was) {
				t.Errorf("the keys and the values of a half share memory")
			}
		}
		for cut := range count + 1 {
			a := api.Node{Keys: keys[:cut], Vals: keys[:cut]}
			b := api.Node{Keys: keys[cut:], Vals: keys[cut:]}
			together(t, a, b, l[:cut], l[cut:])
			together(t, b, a, l[cut:], l[:cut])
			together(t, a, n, l[:cut], l)
		}
		together(t, n, n, l, l)
	}
}

// TestNothingIsKept: R7: what is answered hangs on what was handed in alone, not on what was asked ahead.
func TestNothingIsKept(t *testing.T) {
	g := numbers(3)
	l := couples(9, 3)
	n := of(true, l)
	for range 500 {
		each(of(g.IntN(2) == 0, anything(g, g.IntN(12))), of(true, anything(g, g.IntN(4))), g.IntN(12)-1)
		at := g.IntN(12) - 1
		changes(t, n, l, at, couple{some(g), some(g)})
		first, second := knot.Split(n)
		halves(t, "Split", first, second, true, l)
		found(t, n, 6, 1, true, 1)
	}
}

// TestExamples: the chapter's.
func TestExamples(t *testing.T) {
	n := of(true, byKeys(1, 5, 9))
	for _, x := range []struct {
		key   uint64
		at    int
		there bool
	}{{5, 1, true}, {6, 2, false}, {10, 3, false}} {
		if at, there := knot.Find(n, x.key); at != x.at || there != x.there {
			t.Errorf("Find of 1 5 9: %d = %d, %t", x.key, at, there)
		}
	}
	n = of(false, byKeys(3, 5, 9))
	for _, x := range []struct {
		key   uint64
		child int
	}{{1, 0}, {3, 0}, {8, 1}, {9, 2}} {
		if child := knot.Child(n, x.key); child != x.child {
			t.Errorf("Child of 3 5 9: %d = %d", x.key, child)
		}
	}
	l := byKeys(1, 2, 3, 4)
	first, second := knot.Split(of(true, l[:3]))
	is(t, "Split of 1 2 3, the first", first, true, l[:2])
	is(t, "Split of 1 2 3, the second", second, true, l[2:3])
	first, second = knot.Even(of(true, l[:1]), of(true, l[1:]))
	is(t, "Even of 1; 2 3 4, the first", first, true, l[:2])
	is(t, "Even of 1; 2 3 4, the second", second, true, l[2:])
}
