package vm

import (
	"framewarden/api"
	"framewarden/ram"
	"framewarden/table"
	"framewarden/tags"
)

// Cut gives up what pages have, wherever it is.
func (m *machine) Cut(proc, from, to int) {
	for at := from; at < to; at++ {
		if x := m.read(proc, at); x.Kind != api.EntryNone {
			m.set(proc, at, api.Entry{})
			m.leave(x)
		}
	}
}

// Fork has child mean all that proc means. Only its tables are its own.
func (m *machine) Fork(proc, child int) {
	m.bear(child)
	for at := range api.Pages {
		if m.read(proc, at).Kind == api.EntryNone {
			continue
		}
		m.lay(child, at)
		x := m.read(proc, at)
		m.share(x)
		m.set(child, at, x)
	}
}

// Exit gives up all that proc means, its tables last. Of its pages nothing is
// remembered, once they are cut.
func (m *machine) Exit(proc int) {
	m.Cut(proc, 0, api.Pages)
	for at := 0; at < api.Pages; at += api.Fan {
		leaf, e := table.Leaf(m.bytes, m.roots[proc], at)
		if e != api.ErrNone {
			must(e)
			m.drop(leaf)
		}
	}
	m.drop(m.roots[proc])
	m.roots[proc] = none
}

// Reclaim takes so many frames back, or as many as have pages.
func (m *machine) Reclaim(count int) {
	for range count {
		if !m.takeBack() {
			return
		}
	}
}

// Load reads from the frame that proc's page has.
func (m *machine) Load(proc, at, n int) int {
	f := m.frame(proc, at/api.PageSize)
	return sure(ram.Get(m.bytes, ram.Frame(f)+at%api.PageSize, n))
}

// Store writes to a frame that proc's page has alone.
func (m *machine) Store(proc, at, n, v int) {
	f := m.own(proc, at/api.PageSize)
	m.bytes = sure(ram.Put(m.bytes, ram.Frame(f)+at%api.PageSize, n, v))
}

// Tags reads the tags beside the frame that proc's page has.
func (m *machine) Tags(proc, first, many int) []int {
	f := m.frame(proc, first/api.Grains)
	l := make([]int, many)
	for i := range l {
		l[i] = sure(tags.Get(m.tags, f*api.Grains+first%api.Grains+i))
	}
	return l
}

// Mark writes the tags beside a frame that proc's page has alone.
func (m *machine) Mark(proc, first, many, tag int) {
	f := m.own(proc, first/api.Grains)
	m.tags = sure(tags.Set(m.tags, f*api.Grains+first%api.Grains, many, tag))
}

// frame answers the frame that proc's page has, which may have to get one.
func (m *machine) frame(proc, at int) int {
	x := m.find(proc, at)
	n := x.N
	switch x.Kind {
	case api.EntryNone:
		n = m.give(proc, at, page{})
	case api.EntryOut:
		n = m.fetch(x.N, at)
	}
	m.used[n] = true
	return n
}

// give gives proc's page, which has nothing, a frame in which x is, and
// answers the frame.
func (m *machine) give(proc, at int, x page) int {
	m.lay(proc, at)
	n := m.take()
	m.fill(n, x)
	m.set(proc, at, here(n))
	return n
}

// own answers the frame that proc's page has, and nobody else means: whoever
// meant one together with others leaves it to them.
func (m *machine) own(proc, at int) int {
	n := m.frame(proc, at)
	if m.frames.Refs[n] == 1 {
		return n
	}
	x := m.content(n)
	// It is left first: whichever page has to leave its frame for this one
	// then, proc is not among those who mean the old one any more.
	m.Cut(proc, at, at+1)
	n = m.give(proc, at, x)
	m.used[n] = true
	return n
}
