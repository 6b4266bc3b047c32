package pool_test

import (
	"bytes"
	"maps"
	"slices"
	"strings"

	"cistern/api"
	"cistern/stretch"
)

// member: a volume, but its Root, and what stands in those of its blocks that are mapped.
type member struct {
	api.Volume
	data map[uint64][api.Block]byte
}

// family: volumes to whom the chapter's words are done.
type family struct {
	all  map[uint64]member
	next uint64
}

func newFamily() family { return family{map[uint64]member{}, 1} }

// copied: the same, living apart.
func (f family) copied() family {
	g := family{map[uint64]member{}, f.next}
	for id, m := range f.all {
		m.data = maps.Clone(m.data)
		g.all[id] = m
	}
	return g
}

// named: the volume of that name.
func (f family) named(name string) (member, bool) {
	for _, m := range f.all {
		if m.Name == name {
			return m, true
		}
	}
	return member{}, false
}

// needs: how many blocks a size needs.
func needs(size uint64) uint64 { return (size + 255) / 256 }

func maySize(size uint64) bool { return size >= 1 && size <= 1<<32 }

func mayName(name string) bool {
	return len(name) >= 1 && len(name) <= 16 && strings.Trim(name, "abcdefghijklmnopqrstuvwxyz0123456789-_.") == ""
}

func (f *family) add(m member) (uint64, api.Errno) {
	_, there := f.named(m.Name)
	switch {
	case !mayName(m.Name):
		return 0, api.ErrArg
	case there:
		return 0, api.ErrThere
	case len(f.all) >= 16:
		return 0, api.ErrFull
	}
	m.Id = f.next
	f.all[m.Id] = m
	f.next++
	return m.Id, api.OK
}

func (f *family) create(name string, size uint64) (uint64, api.Errno) {
	if !maySize(size) {
		return 0, api.ErrArg
	}
	return f.add(member{api.Volume{Name: name, Size: size}, map[uint64][api.Block]byte{}})
}

func (f *family) snapshot(name, as string, fixed bool) (uint64, api.Errno) {
	m, there := f.named(name)
	if !there {
		return 0, api.ErrNone
	}
	return f.add(member{api.Volume{Name: as, Size: m.Size, Fixed: fixed, Origin: m.Id}, maps.Clone(m.data)})
}

func (f *family) delete(name string) api.Errno {
	m, there := f.named(name)
	if !there {
		return api.ErrNone
	}
	delete(f.all, m.Id)
	return api.OK
}

func (f *family) resize(name string, size uint64) api.Errno {
	m, there := f.named(name)
	switch {
	case !maySize(size):
		return api.ErrArg
	case !there:
		return api.ErrNone
	case m.Fixed:
		return api.ErrRead
	}
	if size < m.Size {
		maps.DeleteFunc(m.data, func(block uint64, _ [api.Block]byte) bool { return block >= needs(size) })
		if b, mapped := m.data[size/256]; mapped {
			clear(b[size%256:])
			m.data[size/256] = b
		}
	}
	m.Size = size
	f.all[m.Id] = m
	return api.OK
}

func (f *family) read(id, block uint64) ([]byte, api.Errno) {
	m, there := f.all[id]
	switch {
	case !there:
		return nil, api.ErrNone
	case block >= needs(m.Size):
		return nil, api.ErrRange
	}
	b := m.data[block]
	return b[:], api.OK
}

func (f *family) write(id, block uint64, b []byte) api.Errno {
	m, there := f.all[id]
	switch {
	case !there:
		return api.ErrNone
	case m.Fixed:
		return api.ErrRead
	case block >= needs(m.Size):
		return api.ErrRange
	case len(b) != 256:
		return api.ErrArg
	}
	m.data[block] = [api.Block]byte(b)
	return api.OK
}

func (f *family) discard(id, from, to uint64) api.Errno {
	m, there := f.all[id]
	switch {
	case !there:
		return api.ErrNone
	case m.Fixed:
		return api.ErrRead
	case from > to || to > needs(m.Size):
		return api.ErrRange
	}
	maps.DeleteFunc(m.data, func(block uint64, _ [api.Block]byte) bool { return block >= from && block < to })
	return api.OK
}

// list: the volumes by their names.
func (f family) list() []api.Volume {
	var l []api.Volume
	for _, m := range f.all {
		l = append(l, m.Volume)
	}
	slices.SortFunc(l, func(a, b api.Volume) int { return strings.Compare(a.Name, b.Name) })
	return l
}

// rootless: a volume without its Root.
func rootless(v api.Volume) api.Volume {
	v.Root = 0
	return v
}

// tells: that the pool tells of these volumes, and of no others, and of what they have.
func (x *stand) tells(what string, f family) {
	x.t.Helper()
	l, e := x.p.List()
	x.ok("List", e)
	for i := range l {
		m := f.all[l[i].Id]
		for _, call := range []func() (api.Volume, api.Errno){
			func() (api.Volume, api.Errno) { return x.p.Get(m.Name) },
			func() (api.Volume, api.Errno) { return x.p.ById(m.Id) },
		} {
			if v, e := call(); e != api.OK || v != l[i] {
				x.t.Fatalf("%s: of %v is told %v, %d", what, l[i], v, e)
			}
		}
		x.maps(what, l[i], m)
		l[i] = rootless(l[i])
	}
	if want := f.list(); !slices.Equal(l, want) {
		x.t.Fatalf("%s: List tells %v, want %v", what, l, want)
	}
	if next := x.p.Txn().Super().Next; next != f.next {
		x.t.Fatalf("%s: Next is %d, want %d", what, next, f.next)
	}
	x.tellsNone(what, f)
}

// tellsNone: that nothing is told of volumes that are not there.
func (x *stand) tellsNone(what string, f family) {
	x.t.Helper()
	for _, id := range []uint64{0, f.next, greatest} {
		v, e := x.p.ById(id)
		b, g := x.p.Read(id, 0)
		if v != (api.Volume{}) || e != api.ErrNone || len(b) > 0 || g != api.ErrNone {
			x.t.Fatalf("%s: of %d is told %v, %d and %v, %d", what, id, v, e, b, g)
		}
	}
	if v, e := x.p.Get("no.such"); v != (api.Volume{}) || e != api.ErrNone {
		x.t.Fatalf("%s: of a name that is not there is told %v, %d", what, v, e)
	}
}

// maps: that of a volume just these blocks are mapped, and what is read of them and of those beside them.
func (x *stand) maps(what string, v api.Volume, m member) {
	x.t.Helper()
	pairs, e := stretch.Each(x.shelf(), v.Root, 0, greatest, 1<<20)
	x.ok("Each", e)
	if len(pairs) != len(m.data) || (v.Root == 0) != (len(m.data) == 0) {
		x.t.Fatalf("%s: of %v %v is mapped, want %v", what, v, pairs, slices.Sorted(maps.Keys(m.data)))
	}
	ask := []uint64{0, needs(v.Size) - 1}
	for _, p := range pairs {
		if _, mapped := m.data[p.Key]; !mapped {
			x.t.Fatalf("%s: of %v %d is mapped", what, v, p.Key)
		}
		ask = append(ask, p.Key, p.Key+1)
	}
	for _, block := range ask {
		if block >= needs(v.Size) {
			continue
		}
		want := m.data[block]
		if b, e := x.p.Read(v.Id, block); e != api.OK || !bytes.Equal(b, want[:]) {
			x.t.Fatalf("%s: Read(%d, %d) tells %v, %d, want %v", what, v.Id, block, b, e, want)
		}
	}
	for _, block := range []uint64{needs(v.Size), needs(v.Size) + 1, greatest} {
		if b, e := x.p.Read(v.Id, block); e != api.ErrRange || len(b) > 0 {
			x.t.Fatalf("%s: Read(%d, %d) tells %v, %d", what, v.Id, block, b, e)
		}
	}
}
