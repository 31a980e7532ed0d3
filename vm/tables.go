package vm

import (
	"framewarden/api"
	"framewarden/pool"
	"framewarden/swap"
	"framewarden/table"
	"framewarden/tlb"
)

func here(n int) api.Entry { return api.Entry{Kind: api.EntryHere, N: n} }

func out(n int) api.Entry { return api.Entry{Kind: api.EntryOut, N: n} }

// read answers the entry that stands in proc's tables.
func (m *machine) read(proc, at int) api.Entry {
	return sure(table.Get(m.bytes, m.roots[proc], at))
}

// find answers proc's entry, from what is remembered if it is there.
func (m *machine) find(proc, at int) api.Entry {
	for _, c := range m.known {
		if c.Proc == proc && c.Page == at {
			return c.Entry
		}
	}
	x := m.read(proc, at)
	m.tell(proc, at, x)
	return x
}

// set writes proc's entry, for which there must be a leaf. It is remembered
// once it is asked for; what was remembered is not so any more.
func (m *machine) set(proc, at int, x api.Entry) {
	m.bytes = sure(table.Put(m.bytes, m.roots[proc], at, x))
	m.tell(proc, at, api.Entry{})
}

// tell tells what is so, to be remembered.
func (m *machine) tell(proc, at int, x api.Entry) {
	m.known = tlb.Play(append(m.known, api.Cached{Proc: proc, Page: at, Entry: x}))
}

// lay gives proc's page a leaf, if it has none. For its frame another page may
// have to leave one: an entry that was read before need not be so any more.
func (m *machine) lay(proc, at int) {
	_, e := table.Leaf(m.bytes, m.roots[proc], at)
	if e == api.ErrNone {
		m.bytes = sure(table.Link(m.bytes, m.roots[proc], at, m.take()))
		return
	}
	must(e)
}

// meaning answers the processes whose entry of that page is x.
func (m *machine) meaning(at int, x api.Entry) []int {
	var l []int
	for proc := range m.roots {
		if m.lives(proc) && m.read(proc, at) == x {
			l = append(l, proc)
		}
	}
	return l
}

// share has what x tells meant once more.
func (m *machine) share(x api.Entry) {
	switch x.Kind {
	case api.EntryHere:
		m.frames = sure(pool.Share(m.frames, x.N))
	case api.EntryOut:
		m.device = sure(swap.Share(m.device, x.N))
	}
}

// leave has what x tells meant once less.
func (m *machine) leave(x api.Entry) {
	switch x.Kind {
	case api.EntryHere:
		m.drop(x.N)
	case api.EntryOut:
		m.device = sure(swap.Drop(m.device, x.N))
	}
}
