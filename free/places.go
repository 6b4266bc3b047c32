package free

import (
	"container/heap"
	"slices"
)

// taken is the spot of a place that is not free.
const taken = -1

// places is a heap of those places that are free: its top is the least of them. Of each place it knows the spot, so that any can leave.
type places struct {
	line  []int // those that are free
	spots []int // by places: where in the line each stands
}

// allFree answers n places, all of which are free. As they rise, they are a heap already.
func allFree(n int) *places {
	p := &places{line: make([]int, n), spots: make([]int, n)}
	for at := range n {
		p.line[at], p.spots[at] = at, at
	}
	return p
}

// copy answers the same places, in memory of their own.
func (p *places) copy() *places {
	return &places{line: slices.Clone(p.line), spots: slices.Clone(p.spots)}
}

// has answers whether there is such a place.
func (p *places) has(at int) bool { return at >= 0 && at < len(p.spots) }

// free answers whether a place that there is is free.
func (p *places) free(at int) bool { return p.spots[at] != taken }

// leave takes a place that is free out of the heap.
func (p *places) leave(at int) { heap.Remove(p, p.spots[at]) }

// join lays a place that is not free into the heap.
func (p *places) join(at int) { heap.Push(p, at) }

// Len is asked by package heap, as the four below are.
func (p *places) Len() int { return len(p.line) }

// Less answers whether one place goes ahead of another.
func (p *places) Less(i, j int) bool { return p.line[i] < p.line[j] }

// Swap lets two places change their spots.
func (p *places) Swap(i, j int) {
	p.line[i], p.line[j] = p.line[j], p.line[i]
	p.spots[p.line[i]], p.spots[p.line[j]] = i, j
}

// Push lays a place behind all others.
func (p *places) Push(x any) {
	at := x.(int)
	p.spots[at] = len(p.line)
	p.line = append(p.line, at)
}

// Pop takes the last place off.
func (p *places) Pop() any {
	last := len(p.line) - 1
	at := p.line[last]
	p.spots[at] = taken
	p.line = p.line[:last]
	return at
}
