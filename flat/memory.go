package flat

import (
	"slices"

	"framewarden/api"
)

// Memory has the bytes and tags of all processes' pages. Do tells it only of
// processes that live; and what is loaded, stored, asked or marked at once is
// all of one page that is there.
type Memory interface {
	// Cut: pages from to to - 1, as far as they were there, are no more; what
	// comes to their places is 0.
	Cut(proc, from, to int)
	// Fork: child, which did not live, has what proc has.
	Fork(proc, child int)
	// Exit: proc has nothing any more.
	Exit(proc int)
	// Reclaim: so many frames may be taken back, if there are any.
	Reclaim(count int)
	// Load answers the number that the n bytes from address at on are.
	Load(proc, at, n int) int
	// Store makes the n bytes from address at on the lowest ones of v.
	Store(proc, at, n, v int)
	// Tags answers the tags of so many granules, from the first one on.
	Tags(proc, first, many int) []int
	// Mark gives these granules a tag.
	Mark(proc, first, many, tag int)
}

// view is what one process has at all addresses that there are: where no page
// is, all is 0.
type view struct {
	bytes [space]byte
	tags  [grains]int
}

// plain is memory as it seems: each process has its own.
type plain [api.Procs]view

func (m *plain) Cut(proc, from, to int) {
	clear(m[proc].bytes[from*api.PageSize : to*api.PageSize])
	clear(m[proc].tags[from*api.Grains : to*api.Grains])
}

func (m *plain) Fork(proc, child int) { m[child] = m[proc] }

func (m *plain) Exit(proc int) { m[proc] = view{} }

// Reclaim has nothing to do: there are no frames here.
func (m *plain) Reclaim(int) {}

func (m *plain) Load(proc, at, n int) int {
	v := 0
	for i, b := range m[proc].bytes[at : at+n] {
		v |= int(b) << (8 * i)
	}
	return v
}

func (m *plain) Store(proc, at, n, v int) {
	for i := range n {
		m[proc].bytes[at+i] = byte(v >> (8 * i))
	}
}

func (m *plain) Tags(proc, first, many int) []int {
	return m[proc].tags[first : first+many]
}

func (m *plain) Mark(proc, first, many, tag int) {
	for i := range many {
		m[proc].tags[first+i] = tag
	}
}

// shown answers the pages that regions have, rising, in new memory.
func (v *view) shown(regions []api.Region) []api.Page {
	var out []api.Page
	for _, x := range regions {
		for n := x.From; n < x.To; n++ {
			out = append(out, api.Page{
				N:     n,
				Bytes: slices.Clone(v.bytes[n*api.PageSize : (n+1)*api.PageSize]),
				Tags:  slices.Clone(v.tags[n*api.Grains : (n+1)*api.Grains]),
			})
		}
	}
	return out
}
