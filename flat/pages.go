package flat

import (
	"framewarden/api"
	"framewarden/check"
	"framewarden/place"
	"framewarden/region"
)

// mapNew gives p pages where place says, and answers the first one.
func (w *world) mapNew(p *process, op api.Op) (int, api.Errno) {
	if op.Count < 1 || op.Count > api.Pages {
		return 0, api.ErrRange
	}
	if e := p.wrongGuard(op); e != api.OK {
		return 0, e
	}
	if !w.hasRoom(op.Count) {
		return 0, api.ErrFull
	}
	from, e := place.Choose(p.regions, op.Count, op.Draw)
	if e != api.OK {
		return 0, e
	}
	to := from + op.Count
	a := api.Attr{Rights: op.Rights, Key: op.Key, Tagged: op.Tagged}
	if e := p.keep(region.Add(p.regions, api.Region{From: from, To: to, Attr: a})); e != api.OK {
		return 0, e
	}
	// Memory need not be told: where no page was, all is 0.
	return from, api.OK
}

// unmap takes pages from p, as far as they are there.
func (w *world) unmap(p *process, op api.Op) api.Errno {
	if !isSpan(op) {
		return api.ErrRange
	}
	if p.isSealed(op) {
		return api.ErrHeld
	}
	to := op.Page + op.Count
	if e := p.keep(region.Cut(p.regions, op.Page, to)); e != api.OK {
		return e
	}
	w.memory.Cut(op.Proc, op.Page, to)
	return api.OK
}

// protect gives pages of p other rights, and another key.
func (p *process) protect(op api.Op) api.Errno {
	if !isSpan(op) {
		return api.ErrRange
	}
	if e := p.wrongGuard(op); e != api.OK {
		return e
	}
	if !p.isThere(op) {
		return api.ErrForm
	}
	if p.isSealed(op) {
		return api.ErrHeld
	}
	return p.keep(region.Guard(p.regions, op.Page, op.Page+op.Count, op.Rights, op.Key))
}

// seal makes pages of p stay as they are.
func (p *process) seal(op api.Op) api.Errno {
	if !isSpan(op) {
		return api.ErrRange
	}
	if !p.isThere(op) {
		return api.ErrForm
	}
	return p.keep(region.Seal(p.regions, op.Page, op.Page+op.Count))
}

// keep makes l p's regions, unless there is an error.
func (p *process) keep(l []api.Region, e api.Errno) api.Errno {
	if e == api.OK {
		p.regions = l
	}
	return e
}

// wrongGuard answers why no page of p may have op's rights and key.
func (p *process) wrongGuard(op api.Op) api.Errno {
	if e := check.Wrong(op.Rights); e != api.OK {
		return e
	}
	if op.Key < 0 || op.Key >= len(p.keys) || !p.keys[op.Key].Taken {
		return api.ErrNone
	}
	return api.OK
}

// isSpan tells whether op's pages are from 1 to Pages of those that there can
// be.
func isSpan(op api.Op) bool {
	// Page and Count together may be beyond what an int holds.
	return op.Page >= 0 && op.Count >= 1 && op.Page <= api.Pages-op.Count
}

// isThere tells whether p has all of op's pages.
func (p *process) isThere(op api.Op) bool {
	for i := range op.Count {
		if _, ok := region.Find(p.regions, op.Page+i); !ok {
			return false
		}
	}
	return true
}

// isSealed tells whether one of op's pages that p has is sealed.
func (p *process) isSealed(op api.Op) bool {
	for i := range op.Count {
		if a, _ := region.Find(p.regions, op.Page+i); a.Sealed {
			return true
		}
	}
	return false
}
