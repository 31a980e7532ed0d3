package vm

import (
	"framewarden/api"
	"framewarden/clock"
	"framewarden/pool"
	"framewarden/ram"
	"framewarden/swap"
	"framewarden/tags"
)

// page is what a page has: at first, all is 0.
type page struct {
	bytes [api.PageSize]byte
	tags  [api.Grains]int
}

// take answers a frame that nobody meant; if there is none, a page has to
// leave one. Whoever was there may have left something in it.
func (m *machine) take() int {
	if len(m.frames.Free) == 0 {
		m.takeBack()
	}
	p, n, e := pool.Take(m.frames)
	must(e)
	m.frames = p
	return n
}

// drop gives up frame n once.
func (m *machine) drop(n int) { m.frames = sure(pool.Drop(m.frames, n)) }

// fill makes all of frame n what x is.
func (m *machine) fill(n int, x page) {
	copy(m.bytes[ram.Frame(n):], x.bytes[:])
	for i, tag := range x.tags {
		m.tags = sure(tags.Set(m.tags, n*api.Grains+i, 1, tag))
	}
}

// content answers what is in frame n.
func (m *machine) content(n int) page {
	var x page
	copy(x.bytes[:], m.bytes[ram.Frame(n):])
	for i := range x.tags {
		x.tags[i] = sure(tags.Get(m.tags, n*api.Grains+i))
	}
	return x
}

// takeBack sends one page from its frame to the device, and tells whether
// there was any in a frame.
func (m *machine) takeBack() bool {
	held := m.held()
	may := make([]bool, len(held))
	for n, at := range held {
		may[n] = at != none
	}
	n, hand, used, e := clock.Next(m.hand, may, m.used)
	if e == api.ErrNone {
		return false
	}
	must(e)
	m.hand, m.used = hand, used
	m.send(n, held[n])
	return true
}

// held answers of each frame which page is in it; tables stay where they are,
// and count as none.
func (m *machine) held() [api.Frames]int {
	var held [api.Frames]int
	for n := range held {
		held[n] = none
	}
	for proc := range m.roots {
		if !m.lives(proc) {
			continue
		}
		for at := range api.Pages {
			if x := m.read(proc, at); x.Kind == api.EntryHere {
				held[x.N] = at
			}
		}
	}
	return held
}

// send sends a page from frame n to the device, for all who mean it.
func (m *machine) send(n, at int) {
	x := m.content(n)
	d, slot, e := swap.Put(m.device, x.bytes[:], x.tags[:], m.frames.Refs[n])
	must(e)
	m.device = d
	for _, proc := range m.meaning(at, here(n)) {
		m.set(proc, at, out(slot))
		m.drop(n)
	}
}

// fetch brings a page from a slot into a frame, for all who mean it, and
// answers the frame.
func (m *machine) fetch(slot, at int) int {
	bytes, marks, e := swap.Get(m.device, slot)
	must(e)
	n := m.take()
	m.fill(n, page{bytes: [api.PageSize]byte(bytes), tags: [api.Grains]int(marks)})
	for i, proc := range m.meaning(at, out(slot)) {
		// The first one has it from take.
		if i > 0 {
			m.frames = sure(pool.Share(m.frames, n))
		}
		m.device = sure(swap.Drop(m.device, slot))
		m.set(proc, at, here(n))
	}
	return n
}
