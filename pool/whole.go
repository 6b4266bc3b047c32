package pool

import (
	"bytes"

	"cistern/api"
	"cistern/refs"
)

// Whole does what calls of this pool do, all of it, or, behind an error, nothing (P17.5). One that does not come back, as it panics, may not be either.
func (p *Pool) Whole(do func() api.Errno) (e api.Errno) {
	if e := p.asked(); e != api.OK {
		return e
	}
	if do == nil {
		return api.ErrArg
	}
	ahead, fresh, within := p.stands(), p.fresh(), p.whole
	p.whole = true
	e = api.ErrArg
	defer func() {
		recover()
		p.whole = within
		if e != api.OK {
			p.back(ahead)
			p.putBack(fresh)
		}
	}()
	return do()
}

// Commit makes all that was changed last (P17.1). In a Whole it is refused: nothing could take it back.
func (p *Pool) Commit() api.Errno {
	if p.within() {
		return api.ErrBusy
	}
	return p.Txn().Commit()
}

// Abort undoes all that was changed since the last commit (P17.1). In a Whole it is refused likewise.
func (p *Pool) Abort() api.Errno {
	if p.within() {
		return api.ErrBusy
	}
	return p.Txn().Abort()
}

// within answers whether a Whole is under way.
func (p *Pool) within() bool { return p != nil && p.whole }

// state is how a pool stands, but for the bytes of its blocks.
type state struct {
	refs  *refs.Refs
	super api.Super
}

// stands answers how the pool stands.
func (p *Pool) stands() state { return state{p.txn.Refs().Copy(), p.txn.Super()} }

// back makes the pool stand as it did.
func (p *Pool) back(s state) {
	p.txn.Refs().Become(s.refs)
	p.txn.SetDir(s.super.Dir)
	p.txn.SetNext(s.super.Next)
}

// change does what one call does, all of it, or, behind an error, nothing. No bytes need to be put back then: what stood is copied where it is changed, and nothing is handed out in the call once something of it is let go.
func (p *Pool) change(do func() api.Errno) api.Errno {
	ahead := p.stands()
	e := do()
	if e != api.OK {
		p.back(ahead)
	}
	return e
}

// block is a block with its bytes.
type block struct {
	at    int
	bytes []byte
}

// fresh answers the blocks that were handed out since the last commit, as no others are written to ahead of the next one. Without power none is told, and none is written to.
func (p *Pool) fresh() []block {
	var l []block
	for at := range p.txn.Refs().Counts() {
		if !p.txn.Refs().Fresh(at) {
			continue
		}
		if b, e := p.txn.Cache().Get(at); e == api.OK {
			l = append(l, block{at, b})
		}
	}
	return l
}

// putBack gives blocks the bytes again that they had.
func (p *Pool) putBack(l []block) {
	for _, x := range l {
		b, e := p.txn.Cache().Get(x.at)
		if e == api.OK && !bytes.Equal(b, x.bytes) {
			p.txn.Cache().Put(x.at, x.bytes)
		}
	}
}
