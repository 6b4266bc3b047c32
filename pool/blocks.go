package pool

import "cistern/api"

// data is what a block of a volume is to have.
type data struct {
	block uint64
	bytes []byte
}

// span is blocks of a volume, from one on and ahead of another.
type span struct{ from, to uint64 }

// Read answers the bytes of a volume's block (P17.4).
func (p *Pool) Read(id, block uint64) ([]byte, api.Errno) {
	v, e := p.asks(id, data{block: block}.stands)
	if e != api.OK {
		return nil, e
	}
	b, there, e := p.mapped(v.Root, block)
	if e == api.OK && !there {
		b = make([]byte, api.Block)
	}
	return b, e
}

// Write gives a volume's block other bytes (P17.4).
func (p *Pool) Write(id, block uint64, b []byte) api.Errno {
	v, e := p.asks(id, data{block, b}.may)
	if e != api.OK {
		return e
	}
	return p.change(func() api.Errno {
		return p.remap(v, func(root uint64) (uint64, api.Errno) { return p.lay(root, block, b) })
	})
}

// Discard makes noughts of a volume's blocks, from one on and ahead of another (P17.4).
func (p *Pool) Discard(id, from, to uint64) api.Errno {
	v, e := p.asks(id, span{from, to}.may)
	if e != api.OK {
		return e
	}
	if some, e := p.some(v.Root, from, to); e != api.OK || !some {
		return e
	}
	return p.change(func() api.Errno {
		return p.remap(v, func(root uint64) (uint64, api.Errno) { return p.without(root, from, to) })
	})
}

// asks answers the volume of a number, and what it tells to what it is asked first.
func (p *Pool) asks(id uint64, first func(api.Volume) api.Errno) (api.Volume, api.Errno) {
	v, e := p.ById(id)
	if e == api.OK {
		e = first(v)
	}
	return v, e
}

// stands answers whether a volume has the block.
func (d data) stands(v api.Volume) api.Errno {
	if d.block >= blocks(v.Size) {
		return api.ErrRange
	}
	return api.OK
}

// may answers whether a volume's block may get the bytes.
func (d data) may(v api.Volume) api.Errno {
	e := open(v)
	if e == api.OK {
		e = d.stands(v)
	}
	if e == api.OK && len(d.bytes) != api.Block {
		e = api.ErrArg
	}
	return e
}

// may answers whether a volume has the blocks, and they may be changed.
func (s span) may(v api.Volume) api.Errno {
	e := open(v)
	if e == api.OK && (s.from > s.to || s.to > blocks(v.Size)) {
		e = api.ErrRange
	}
	return e
}

// blocks answers how many blocks a size needs.
func blocks(size uint64) uint64 {
	whole := size / api.Block
	if size%api.Block > 0 {
		whole++
	}
	return whole
}
