package dir_test

import (
	"testing"

	"cistern/api"
	"cistern/dir"
)

// told: that a call tells that.
func (x *stand) told(what string, have, want api.Errno) {
	x.t.Helper()
	if have != want {
		x.t.Errorf("%s tells %d, want %d", what, have, want)
	}
}

// The chapter's examples, in their order.
func TestExamples(t *testing.T) {
	x := anew(t, 60, 8)
	a, b := api.Volume{Id: 1, Name: "a", Size: 512}, api.Volume{Id: 2, Name: "b.2"}
	x.told("Add 1 a", dir.Add(x.p, a), api.OK)
	x.told("Add 1 b", dir.Add(x.p, api.Volume{Id: 1, Name: "b"}), api.ErrThere)
	x.told("Add 2 a", dir.Add(x.p, api.Volume{Id: 2, Name: "a"}), api.ErrThere)
	x.told("Add 0 c", dir.Add(x.p, api.Volume{Id: 0, Name: "c"}), api.ErrArg)

	x.told("Add 2 B", dir.Add(x.p, api.Volume{Id: 2, Name: "B"}), api.ErrArg)
	x.told("Add 2 b.2", dir.Add(x.p, b), api.OK)
	if l, e := dir.List(x.p); e != api.OK || len(l) != 2 || l[0] != a || l[1] != b {
		t.Errorf("List tells %v, %d", l, e)
	}

	c := api.Volume{Id: 2, Name: "b", Size: 7}
	x.told("Set 2 a", dir.Set(x.p, api.Volume{Id: 2, Name: "a"}), api.ErrThere)
	x.told("Set 3 c", dir.Set(x.p, api.Volume{Id: 3, Name: "c"}), api.ErrNone)
	x.told("Set 2 b", dir.Set(x.p, c), api.OK)
	_, e := dir.ByName(x.p, "b.2")
	x.told("ByName b.2", e, api.ErrNone)
	x.tells("behind Set", family{1: a, 2: c})

	x.told("Remove 2", dir.Remove(x.p, 2), api.OK)
	x.told("Remove 2", dir.Remove(x.p, 2), api.ErrNone)
	_, e = dir.ById(x.p, 2)
	x.told("ById 2", e, api.ErrNone)
	x.tells("behind Remove", family{1: a})
	x.counted("behind all")
}
