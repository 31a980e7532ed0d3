package flat

import (
	"framewarden/api"
	"framewarden/check"
	"framewarden/region"
)

const (
	maxTag  = 15
	maxSize = 4 // bytes that are looked at by one op
)

// isLook tells whether ops of that kind look at memory.
func isLook(kind int) bool {
	return kind == api.OpLoad || kind == api.OpStore || kind == api.OpFetch || kind == api.OpTag
}

// wayOf answers which way ops of that kind look at memory.
func wayOf(kind int) int {
	switch kind {
	case api.OpLoad:
		return api.Read
	case api.OpFetch:
		return api.Exec
	}
	return api.Write
}

// look does what op does with p's memory, unless a page of it faults.
func (p *process) look(op api.Op) api.Ans {
	from, to, e := touched(op)
	if e != api.OK {
		return api.Ans{Err: e}
	}
	if f, at := p.fault(op, from, to); f != 0 {
		return api.Ans{Err: api.ErrFault, Fault: f, At: at}
	}
	switch op.Kind {
	case api.OpTag:
		p.mark(from, to, op.Tag)
	case api.OpStore:
		p.store(from, to, op.Value)
	default:
		return api.Ans{Value: p.load(from, to)}
	}
	return api.Ans{}
}

// touched answers the addresses that op touches, from the first one to the one
// behind the last.
func touched(op api.Op) (int, int, api.Errno) {
	many, most, each := op.Size, maxSize, 1
	if op.Kind == api.OpTag {
		many, most, each = op.Count, grains, api.Granule
	}
	if op.Tag < 0 || op.Tag > maxTag || many < 1 || many > most {
		return 0, 0, api.ErrRange
	}
	if op.Addr < 0 || op.Addr > space-many*each || op.Addr%each != 0 {
		return 0, 0, api.ErrRange
	}
	return op.Addr, op.Addr + many*each, api.OK
}

// fault answers the first fault of op at addresses from to to - 1, page by
// page, and where it is.
func (p *process) fault(op api.Op, from, to int) (int, int) {
	for from < to {
		end := min(to, (from/api.PageSize+1)*api.PageSize)
		if f, at := p.pageFault(op, from, end); f != 0 {
			return f, at
		}
		from = end
	}
	return 0, 0
}

// pageFault answers the fault of op at addresses from to to - 1, which are of
// one page, and where it is.
func (p *process) pageFault(op api.Op, from, to int) (int, int) {
	a, ok := region.Find(p.regions, from/api.PageSize)
	if !ok {
		return api.FaultMap, from
	}
	way := wayOf(op.Kind)
	if f := check.Page(a, p.keys, way); f != 0 {
		return f, from
	}
	if op.Kind == api.OpTag {
		if !a.Tagged {
			return api.FaultTag, from
		}
		// What tags there were does not matter: others take their place.
		return 0, 0
	}
	first := from / api.Granule
	f, i := check.Tags(a, way, p.tags[first:(to-1)/api.Granule+1], op.Tag)
	if f == 0 {
		return 0, 0
	}
	return f, max(from, (first+i)*api.Granule)
}

// mark gives the granules at addresses from to to - 1 a tag.
func (p *process) mark(from, to, tag int) {
	for g := from / api.Granule; g < to/api.Granule; g++ {
		p.tags[g] = tag
	}
}

// store puts the lowest bytes of v at addresses from to to - 1, the least
// first.
func (p *process) store(from, to, v int) {
	for at := from; at < to; at++ {
		p.bytes[at] = byte(v)
		v >>= 8
	}
}

// load answers the number that the bytes at addresses from to to - 1 are, the
// least first.
func (p *process) load(from, to int) int {
	v := 0
	for i, b := range p.bytes[from:to] {
		v |= int(b) << (8 * i)
	}
	return v
}
