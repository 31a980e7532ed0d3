package vm

import (
	"framewarden/api"
	"framewarden/pool"
	"framewarden/ram"
	"framewarden/swap"
	"framewarden/tags"
)

// none is where no root is, and no page.
const none = -1

// machine has each page, once it was looked at, in a frame or in a slot. Which
// one that is stands in tables alone, and who means a frame or a slot beside
// others means it for the same page: it has it from a fork.
type machine struct {
	bytes  []byte         // of all frames
	tags   []byte         // of their granules
	frames api.Pool       // how often each frame is meant
	device []api.Slot     // pages that were taken back
	roots  [api.Procs]int // the frames of all processes' roots
	known  []api.Cached   // entries that are remembered
	hand   int            // where the next frame is looked for
	used   []bool         // frames that were looked at lately
}

// blank answers a machine on which no process lives.
func blank() *machine {
	return &machine{
		bytes:  ram.New(),
		tags:   tags.New(api.Frames * api.Grains),
		frames: pool.New(),
		device: swap.New(),
		roots:  [api.Procs]int{none, none, none, none},
		used:   make([]bool, api.Frames),
	}
}

// bear gives proc a root: nothing more is needed to live.
func (m *machine) bear(proc int) {
	n := m.take()
	m.fill(n, page{})
	m.roots[proc] = n
}

// lives tells whether proc has a root.
func (m *machine) lives(proc int) bool { return m.roots[proc] != none }

// inUse counts the frames and slots that are meant.
func (m *machine) inUse() api.Used {
	var u api.Used
	for _, refs := range m.frames.Refs {
		if refs > 0 {
			u.Frames++
		}
	}
	for _, s := range m.device {
		if s.Refs > 0 {
			u.Slots++
		}
	}
	return u
}
