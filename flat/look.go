package flat

import (
	"iter"

	"framewarden/api"
	"framewarden/check"
	"framewarden/region"
)

const (
	maxTag  = 15
	maxSize = 4 // bytes that are looked at by one op
)

// isLook tells whether ops of that kind look at memory.
func isLook(kind int) bool {
	return kind == api.OpLoad || kind == api.OpStore || kind == api.OpFetch || kind == api.OpTag
}

// wayOf answers which way ops of that kind look at memory.
func wayOf(kind int) int {
	switch kind {
	case api.OpLoad:
		return api.Read
	case api.OpFetch:
		return api.Exec
	}
	return api.Write
}

// look does what op does with its process's memory, unless a page of it
// faults.
func (w *world) look(op api.Op) api.Ans {
	from, to, e := touched(op)
	if e != api.OK {
		return api.Ans{Err: e}
	}
	if f, at := w.fault(op, from, to); f != 0 {
		return api.Ans{Err: api.ErrFault, Fault: f, At: at}
	}
	switch op.Kind {
	case api.OpTag:
		w.mark(op, from, to)
	case api.OpStore:
		w.store(op, from, to)
	default:
		return api.Ans{Value: w.load(op, from, to)}
	}
	return api.Ans{}
}

// touched answers the addresses that op touches, from the first one to the one
// behind the last.
func touched(op api.Op) (int, int, api.Errno) {
	many, most, each := op.Size, maxSize, 1
	if op.Kind == api.OpTag {
		many, most, each = op.Count, grains, api.Granule
	}
	if op.Tag < 0 || op.Tag > maxTag || many < 1 || many > most {
		return 0, 0, api.ErrRange
	}
	if op.Addr < 0 || op.Addr > space-many*each || op.Addr%each != 0 {
		return 0, 0, api.ErrRange
	}
	return op.Addr, op.Addr + many*each, api.OK
}

// byPage tells which of addresses from to to - 1 are in each page, in turn:
// the first one, and the one behind the last.
func byPage(from, to int) iter.Seq2[int, int] {
	return func(yield func(int, int) bool) {
		for at := from; at < to; {
			end := min(to, (at/api.PageSize+1)*api.PageSize)
			if !yield(at, end) {
				return
			}
			at = end
		}
	}
}

// fault answers the first fault of op at addresses from to to - 1, page by
// page, and where it is.
func (w *world) fault(op api.Op, from, to int) (int, int) {
	for at, end := range byPage(from, to) {
		if f, at := w.pageFault(op, at, end); f != 0 {
			return f, at
		}
	}
	return 0, 0
}

// pageFault answers the fault of op at addresses from to to - 1, which are of
// one page, and where it is.
func (w *world) pageFault(op api.Op, from, to int) (int, int) {
	p := &w.procs[op.Proc]
	a, ok := region.Find(p.regions, from/api.PageSize)
	if !ok {
		return api.FaultMap, from
	}
	way := wayOf(op.Kind)
	if f := check.Page(a, p.keys, way); f != 0 {
		return f, from
	}
	if op.Kind == api.OpTag {
		if !a.Tagged {
			return api.FaultTag, from
		}
		// What tags there were does not matter: others take their place.
		return 0, 0
	}
	first, last := from/api.Granule, (to-1)/api.Granule
	tags := w.memory.Tags(op.Proc, first, last-first+1)
	f, i := check.Tags(a, way, tags, op.Tag)
	if f == 0 {
		return 0, 0
	}
	return f, max(from, (first+i)*api.Granule)
}

// mark gives the granules at addresses from to to - 1 op's tag.
func (w *world) mark(op api.Op, from, to int) {
	for at, end := range byPage(from, to) {
		w.memory.Mark(op.Proc, at/api.Granule, (end-at)/api.Granule, op.Tag)
	}
}

// store puts the lowest bytes of op's value at addresses from to to - 1, the
// least first.
func (w *world) store(op api.Op, from, to int) {
	for at, end := range byPage(from, to) {
		w.memory.Store(op.Proc, at, end-at, op.Value>>(8*(at-from)))
	}
}

// load answers the number that the bytes at addresses from to to - 1 are, the
// least first.
func (w *world) load(op api.Op, from, to int) int {
	v := 0
	for at, end := range byPage(from, to) {
		v |= w.memory.Load(op.Proc, at, end-at) << (8 * (at - from))
	}
	return v
}
