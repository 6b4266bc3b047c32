package dir_test

import (
	"fmt"
	"slices"
	"testing"

	"cistern/api"
	"cistern/dir"
	"cistern/stamp"
	"cistern/tree"
)

// P16.2: an empty directory.
func TestEmpty(t *testing.T) {
	x := anew(t, 16, 2)
	for range 2 { // the second time one that was not empty
		x.stays("a call in an empty directory", func() {
			for _, id := range edges {
				if v, e := dir.ById(x.p, id); v != (api.Volume{}) || e != api.ErrNone {
					t.Errorf("ById(%d) tells %v, %d", id, v, e)
				}
				if e := dir.Remove(x.p, id); e != api.ErrNone {
					t.Errorf("Remove(%d) tells %d", id, e)
				}
			}
			for _, name := range names {
				if v, e := dir.ByName(x.p, name); v != (api.Volume{}) || e != api.ErrNone {
					t.Errorf("ByName(%q) tells %v, %d", name, v, e)
				}
			}
			if l, e := dir.List(x.p); len(l) > 0 || e != api.OK {
				t.Errorf("List tells %v, %d", l, e)
			}
			if e := dir.Set(x.p, volume(1, "a")); e != api.ErrNone {
				t.Errorf("Set tells %d", e)
			}
		})
		x.add(volume(1, "a"))
		x.ok("Remove", dir.Remove(x.p, 1))
	}
}

// family16: as many volumes as there may be; their names stand in another order than their numbers, and some begin as others do.
func family16() []api.Volume {
	ids := []uint64{1, 2, 3, 7, 8, 255, 256, 1 << 16, 1 << 32, 1<<32 + 1, 1 << 40, 1 << 56, 1 << 61, 1<<62 - 3, 1<<62 - 2, 1<<62 - 1}
	named := []string{"m", "-", "zz", "a", ".", "ab", "a-", "_", "9", "0123456789abcdef", "z", "a.", "a_", "aa", "0123456789abcdee", "a0"}
	var l []api.Volume
	for i, id := range ids {
		l = append(l, volume(id, named[i]))
	}
	return l
}

// P16.2: volumes are found by number and name, and told by their names, byte by byte, in whatever order they came.
func TestFound(t *testing.T) {
	all := family16()
	r := numbers(2)
	for n := range 80 {
		x := anew(t, 120, []int{1, 3, 120}[n%3])
		f := family{}
		for _, i := range r.Perm(16)[:n%17] {
			x.add(all[i])
			f[all[i].Id] = all[i]
		}
		x.stays("what is found", func() { x.tells("one behind the other", f) })
		for _, name := range append(names, "mm", "zzz", "b", "-a", "A") {
			if f.named(name) != 0 {
				continue
			}
			if v, e := dir.ByName(x.p, name); v != (api.Volume{}) || e != api.ErrNone {
				t.Fatalf("ByName(%q) tells %v, %d", name, v, e)
			}
		}
		x.ok("Commit", x.p.Commit())
		x.open(2)
		x.tells("on the disk", f)
	}
}

// R3: what List tells is new memory.
func TestListIsNew(t *testing.T) {
	x := anew(t, 60, 60)
	x.add(volume(1, "b"), volume(2, "a"))
	l, e := dir.List(x.p)
	x.ok("List", e)
	clear(l[:cap(l)])
	x.tells("behind a List that was written over", family{1: volume(1, "b"), 2: volume(2, "a")})
}

// fault: how an entry's block is no entry of its Id, and what a call that reads it tells.
type fault struct {
	what string
	want api.Errno
	lost api.Errno // what a Remove of it tells
	do   func(x *stand, id, at uint64)
}

// sealed: one by what stands in the block.
func sealed(what string, want api.Errno, payload func(id uint64) []byte) fault {
	return fault{what, want, api.OK, func(x *stand, id, at uint64) { x.seal(at, payload(id), api.KindEntry) }}
}

// kind: one by the block's kind.
func kind(n byte) fault {
	return fault{fmt.Sprint("the kind ", n), api.ErrKind, api.OK, func(x *stand, id, at uint64) { x.seal(at, entryOf(volume(id, "kind")), n) }}
}

// beyond: one whose block there is not.
func beyond(val uint64) fault {
	return fault{fmt.Sprint("the block ", val), api.ErrNone, api.ErrArg, func(x *stand, id, at uint64) { x.insert(id, val) }}
}

// insert: a pair is put into the directory by hand; its old value is lost.
func (x *stand) insert(key, val uint64) {
	x.t.Helper()
	root, _, _, e := tree.Insert(x.p.Shelf(), x.p.Super().Dir, key, val)
	x.ok("Insert", e)
	x.ok("SetDir", x.p.SetDir(root))
}

// put: what stands in a block is written over.
func (x *stand) put(at uint64, b []byte) {
	x.t.Helper()
	x.ok("Put", x.p.Cache().Put(int(at), b))
}

// faults: all ways in which an entry may be none.
func faults() []fault {
	l := []fault{
		{"noughts", api.ErrSum, api.OK, func(x *stand, id, at uint64) { x.put(at, make([]byte, api.Block)) }},
		{"a bit", api.ErrSum, api.OK, func(x *stand, id, at uint64) {
			b, _ := x.p.Cache().Get(int(at))
			b[100] ^= 4
			x.put(at, b)
		}},
		{"another place", api.ErrPlace, api.OK, func(x *stand, id, at uint64) {
			b, _ := stamp.Seal(entryOf(volume(id, "place")), int(at+1), api.KindEntry)
			x.put(at, b)
		}},
		kind(api.KindNode), kind(api.KindData), kind(api.KindPage), kind(0), kind(5),
		beyond(120), beyond(121), beyond(1024), beyond(1<<31 - 1), beyond(1 << 31), beyond(1<<32 + 40), beyond(1 << 63), beyond(greatest),
		sealed("no bytes", api.ErrForm, func(id uint64) []byte { return nil }),
		sealed("a byte behind", api.ErrForm, func(id uint64) []byte { return append(entryOf(volume(id, "behind")), 0, 0, 1) }),
		sealed("a last byte behind", api.ErrForm, func(id uint64) []byte {
			b := append(entryOf(volume(id, "behind")), make([]byte, 240)...)[:240]
			b[239] = 1
			return b
		}),
		sealed("a cut", api.ErrForm, func(id uint64) []byte { return entryOf(volume(id, "a.cut"))[:36] }),
		sealed("no name", api.ErrForm, func(id uint64) []byte { return entryOf(volume(id, "")) }),
		sealed("another letter", api.ErrForm, func(id uint64) []byte { return entryOf(volume(id, "A")) }),
		sealed("the Id 0", api.ErrForm, func(id uint64) []byte { return entryOf(volume(0, "id")) }),
		sealed("the Id 2^62", api.ErrForm, func(id uint64) []byte { return entryOf(volume(1<<62, "id")) }),
		sealed("a Size", api.ErrForm, func(id uint64) []byte { return entryOf(api.Volume{Id: id, Name: "size", Size: 1<<32 + 1}) }),
		sealed("another Id", api.ErrPool, func(id uint64) []byte { return entryOf(volume(id^4, "other")) }),
		sealed("a far Id", api.ErrPool, func(id uint64) []byte { return entryOf(volume(id^1<<20, "far")) }),
	}
	return append(l, sealed("a Fixed of 2", api.ErrForm, func(id uint64) []byte {
		b := entryOf(volume(id, "fixed"))
		b[32] = 2
		return b
	}))
}

// spoilt: what calls tell of a directory of these volumes, some of whose entries cannot be read, by the chapter's words.
type spoilt struct {
	all  []api.Volume // by their Ids
	told map[uint64]fault
}

func (s spoilt) byId(id uint64) api.Errno {
	switch f, so := s.told[id]; {
	case !slices.ContainsFunc(s.all, func(v api.Volume) bool { return v.Id == id }):
		return api.ErrNone
	case so:
		return f.want
	}
	return api.OK
}

// byName: what is told, and of which volume, and whether one was found.
func (s spoilt) byName(name string) (uint64, bool, api.Errno) {
	for _, v := range s.all {
		if f, so := s.told[v.Id]; so {
			return 0, false, f.want
		}
		if v.Name == name {
			return v.Id, true, api.OK
		}
	}
	return 0, false, api.OK
}

func (s spoilt) add(v api.Volume) api.Errno {
	there := slices.ContainsFunc(s.all, func(x api.Volume) bool { return x.Id == v.Id })
	_, found, e := s.byName(v.Name)
	switch {
	case there:
		return api.ErrThere
	case e != api.OK:
		return e
	case found:
		return api.ErrThere
	case len(s.all) >= 16:
		return api.ErrFull
	}
	return api.OK
}

func (s spoilt) set(v api.Volume) api.Errno {
	id, found, e := s.byName(v.Name)
	switch {
	case !slices.ContainsFunc(s.all, func(x api.Volume) bool { return x.Id == v.Id }):
		return api.ErrNone
	case e != api.OK:
		return e
	case found && id != v.Id:
		return api.ErrThere
	}
	return api.OK
}

func (s spoilt) remove(id uint64) api.Errno {
	f, so := s.told[id]
	switch {
	case !slices.ContainsFunc(s.all, func(x api.Volume) bool { return x.Id == id }):
		return api.ErrNone
	case so:
		return f.lost
	}
	return api.OK
}

// hold: that all calls tell so. The pool is as behind its last commit ahead and behind.
func (s spoilt) hold(x *stand) {
	x.t.Helper()
	for _, v := range append(s.all, volume(5, "none"), volume(1<<50, "no.other")) {
		have, e := dir.ById(x.p, v.Id)
		if e != s.byId(v.Id) || have != (api.Volume{}) && (have != v || e != api.OK) {
			x.t.Fatalf("%v: ById(%d) tells %v, %d, want %d", s.told, v.Id, have, e, s.byId(v.Id))
		}
		id, found, want := s.byName(v.Name)
		if want == api.OK && !found {
			want = api.ErrNone
		}
		have, e = dir.ByName(x.p, v.Name)
		if e != want || have.Id != id || have.Id == 0 && have != (api.Volume{}) {
			x.t.Fatalf("%v: ByName(%q) tells %v, %d, want %d", s.told, v.Name, have, e, want)
		}
		s.tell(x, fmt.Sprint("Remove ", v.Id), s.remove(v.Id), func() api.Errno { return dir.Remove(x.p, v.Id) })
		for _, name := range []string{v.Name, "new", s.all[0].Name, s.all[len(s.all)-1].Name} {
			v.Name = name
			s.tell(x, fmt.Sprint("Add ", v), s.add(v), func() api.Errno { return dir.Add(x.p, v) })
			s.tell(x, fmt.Sprint("Set ", v), s.set(v), func() api.Errno { return dir.Set(x.p, v) })
		}
	}
	_, _, want := s.byName("")
	if l, e := dir.List(x.p); e != want || e != api.OK && len(l) > 0 || e == api.OK && len(l) != len(s.all) {
		x.t.Fatalf("%v: List tells %v, %d, want %d", s.told, l, e, want)
	}
}

// tell: that a call tells that; behind it all is as behind the last commit. Where a value is no block, a step that counts it may be refused.
func (s spoilt) tell(x *stand, what string, want api.Errno, call func() api.Errno) {
	x.t.Helper()
	ahead := x.p.Super()
	counts := x.p.Refs().Counts()
	e := call()
	for _, f := range s.told {
		if want == api.OK && e == f.lost {
			want = f.lost
		}
	}
	if e != want {
		x.t.Fatalf("%v: %s tells %d, want %d", s.told, what, e, want)
	}
	if want == api.OK == (x.p.Super() == ahead) {
		x.t.Fatalf("%v: %s: %v is %v", s.told, what, ahead, x.p.Super())
	}
	if want != api.OK && want != api.ErrArg && !slices.Equal(counts, x.p.Refs().Counts()) {
		x.t.Fatalf("%v: %s changes the counts", s.told, what)
	}
	x.ok("Abort", x.p.Abort())
}

// some: so many of the volumes that there may be, by their numbers.
func some(n int) []api.Volume {
	var l []api.Volume
	for i, v := range family16() {
		if i*n/16 != (i+1)*n/16 {
			l = append(l, v)
		}
	}
	return l
}

// spoil: a pool of these volumes, in which the entries of some stand as these faults say; that is committed.
func spoil(t *testing.T, all []api.Volume, told map[uint64]fault) *stand {
	t.Helper()
	x := anew(t, 120, 120)
	x.add(all...)
	blocks := x.entries(x.p.Super().Dir)
	for id, f := range told {
		f.do(x, id, blocks[id])
	}
	x.ok("Commit", x.p.Commit())
	return x
}

// P16.2, P16.3: one entry that can't be read, for each reason that there may be: which calls read it, and which reads come ahead of it.
func TestBrokenEntry(t *testing.T) {
	t.Parallel()
	for _, n := range []int{1, 2, 5, 16} {
		all := some(n)
		for _, f := range faults() {
			for _, v := range all {
				s := spoilt{all, map[uint64]fault{v.Id: f}}
				s.hold(spoil(t, all, s.told))
			}
		}
	}
}

// P16.2, P16.3: of several entries that can't be read the first one is told, their Ids rising.
func TestBrokenEntries(t *testing.T) {
	t.Parallel()
	r := numbers(3)
	l := faults()
	for range 300 {
		all := some(2 + r.IntN(15))
		s := spoilt{all, map[uint64]fault{}}
		for range 2 + r.IntN(2) {
			s.told[all[r.IntN(len(all))].Id] = l[r.IntN(len(l))]
		}
		s.hold(spoil(t, all, s.told))
	}
}

// P16.2: a node that can't be loaded is met when the entries beneath it are wanted, behind those of the nodes ahead.
func TestBrokenLeaf(t *testing.T) {
	all := some(16)
	for entry := -1; entry < 16; entry++ {
		for which := range 3 {
			x := spoil(t, all, nil)
			leaves := x.leaves(x.p.Super().Dir)
			if len(leaves) < 3 {
				t.Fatalf("%d leaves", len(leaves))
			}
			told := map[uint64]fault{}
			ahead := 0
			for i, leaf := range leaves[:3] {
				n, e := x.p.Shelf().Load(leaf)
				x.ok("Load", e)
				if i < which {
					ahead += len(n.Keys)
				} else if i == which {
					for _, key := range n.Keys {
						told[key] = fault{want: api.ErrKind}
					}
				}
			}
			x.seal(leaves[which], []byte("leaf"), api.KindData)
			if entry >= 0 && told[all[entry].Id].want == api.OK {
				f := faults()[0]
				told[all[entry].Id] = f
				f.do(x, all[entry].Id, x.entryAt(all[entry].Id))
			}
			x.brokenLeaf(all, told)
		}
	}
}

// entryAt: the block of an entry.
func (x *stand) entryAt(id uint64) uint64 {
	x.t.Helper()
	at, there, e := tree.Lookup(x.p.Shelf(), x.p.Super().Dir, id)
	if e != api.OK || !there {
		x.t.Fatalf("Lookup of %d tells %v, %d", id, there, e)
	}
	return at
}

// brokenLeaf: that what is found of these volumes is what is told.
func (x *stand) brokenLeaf(all []api.Volume, told map[uint64]fault) {
	x.t.Helper()
	s := spoilt{all, told}
	for _, v := range all {
		if _, e := dir.ById(x.p, v.Id); e != s.byId(v.Id) {
			x.t.Errorf("%v: ById(%d) tells %d, want %d", told, v.Id, e, s.byId(v.Id))
		}
		id, _, want := s.byName(v.Name)
		if have, e := dir.ByName(x.p, v.Name); e != want || have.Id != id {
			x.t.Errorf("%v: ByName(%q) tells %v, %d, want %d", told, v.Name, have, e, want)
		}
	}
	_, _, want := s.byName("none")
	if l, e := dir.List(x.p); len(l) > 0 || e != want {
		x.t.Errorf("%v: List tells %v, %d, want %d", told, l, e, want)
	}
	if _, e := dir.ByName(x.p, "none"); e != want {
		x.t.Errorf("%v: ByName tells %d, want %d", told, e, want)
	}
	if e := dir.Add(x.p, volume(1<<62-4, "none")); e == api.OK || e == api.ErrFull {
		x.t.Errorf("%v: Add tells %d", told, e)
	}
}

// P16.2: a root that can't be loaded is every call's error, but ErrArg.
func TestBrokenRoot(t *testing.T) {
	for _, n := range []int{1, 16} {
		all := some(n)
		x := spoil(t, all, nil)
		x.put(x.p.Super().Dir, make([]byte, api.Block))
		x.stays("a call with a broken root", func() {
			_, e := dir.ById(x.p, 1)
			_, f := dir.ByName(x.p, "m")
			_, g := dir.List(x.p)
			have := []api.Errno{e, f, g, dir.Add(x.p, volume(1, "m")), dir.Set(x.p, all[0]), dir.Remove(x.p, 1), dir.Remove(x.p, 99)}
			if !slices.Equal(have, slices.Repeat([]api.Errno{api.ErrSum}, 7)) {
				t.Errorf("the calls tell %v", have)
			}
			if e, f := dir.Add(x.p, volume(0, "m")), dir.Set(x.p, volume(1, "M")); e != api.ErrArg || f != api.ErrArg {
				t.Errorf("Add and Set tell %d, %d", e, f)
			}
		})
	}
}

// hand: a directory is laid by hand, of these entries by their keys.
func (x *stand) hand(l map[uint64][]byte) {
	x.t.Helper()
	for key, payload := range l {
		at, e := x.p.Refs().Alloc()
		x.ok("Alloc", e)
		x.seal(uint64(at), payload, api.KindEntry)
		x.insert(key, uint64(at))
	}
}

// P16.2, P16.3: more volumes than may be, as another program may have left them: all are told, none is added.
func TestMoreThanMayBe(t *testing.T) {
	for _, n := range []uint64{15, 16, 17, 40} {
		x := anew(t, 120, 8)
		f := family{}
		for id := range n {
			v := volume(id+1, fmt.Sprint("v", id))
			x.hand(map[uint64][]byte{v.Id: entryOf(v)})
			f[v.Id] = v
		}
		x.tells("a directory laid by hand", f)
		want := api.ErrFull
		if n < 16 {
			want = api.OK
		}
		if e := dir.Add(x.p, volume(99, "new")); e != want {
			t.Errorf("Add to %d tells %d", n, e)
		}
	}
}

// P16.2: keys that no volume can have are read where they stand among the others.
func TestKeysThatMayNotBe(t *testing.T) {
	for _, key := range []uint64{0, 1 << 62, 1 << 63, greatest} {
		for _, payload := range [][]byte{entryOf(volume(key, "key")), entryOf(volume(2, "key"))} {
			want := api.ErrForm
			if payload[7] == 2 {
				want = api.ErrPool
			}
			x := anew(t, 60, 8)
			x.add(volume(1, "a"))
			x.hand(map[uint64][]byte{key: payload})
			if v, e := dir.ById(x.p, key); v != (api.Volume{}) || e != want {
				t.Errorf("ById(%d) tells %v, %d, want %d", key, v, e, want)
			}
			if l, e := dir.List(x.p); len(l) > 0 || e != want {
				t.Errorf("with the key %d List tells %v, %d", key, l, e)
			}
			ahead := api.OK
			if key == 0 {
				ahead = want
			}
			if _, e := dir.ByName(x.p, "a"); e != ahead {
				t.Errorf("with the key %d ByName tells %d, want %d", key, e, ahead)
			}
			if _, e := dir.ByName(x.p, "key"); e != want {
				t.Errorf("with the key %d ByName tells %d, want %d", key, e, want)
			}
			x.ok("Remove", dir.Remove(x.p, key))
			x.tells("behind Remove", family{1: volume(1, "a")})
			x.counted("behind Remove")
		}
	}
}

// P16.2: of two volumes of one name ByName tells the one of the lesser Id.
func TestOneNameTwice(t *testing.T) {
	x := anew(t, 60, 8)
	x.hand(map[uint64][]byte{4: entryOf(volume(4, "b")), 9: entryOf(volume(9, "a")), 7: entryOf(volume(7, "a"))})
	if v, e := dir.ByName(x.p, "a"); v != volume(7, "a") || e != api.OK {
		t.Errorf("ByName tells %v, %d", v, e)
	}
	if l, e := dir.List(x.p); !slices.Equal(l, []api.Volume{volume(7, "a"), volume(9, "a"), volume(4, "b")}) || e != api.OK {
		t.Errorf("List tells %v, %d", l, e)
	}
	if e := dir.Set(x.p, volume(9, "a")); e != api.ErrThere {
		t.Errorf("Set tells %d", e)
	}
}
