package vm

import (
	"slices"
	"testing"

	"framewarden/api"
	"framewarden/flat"
	"framewarden/pool"
	"framewarden/table"
)

// watched is a machine that is looked at behind all that it does.
type watched struct {
	m *machine
	t *testing.T
}

func (w watched) Cut(proc, from, to int) { defer w.look(); w.m.Cut(proc, from, to) }
func (w watched) Fork(proc, child int)   { defer w.look(); w.m.Fork(proc, child) }
func (w watched) Exit(proc int)          { defer w.look(); w.m.Exit(proc) }
func (w watched) Reclaim(count int)      { defer w.look(); w.m.Reclaim(count) }

func (w watched) Load(proc, at, n int) int { defer w.look(); return w.m.Load(proc, at, n) }
func (w watched) Store(proc, at, n, v int) { defer w.look(); w.m.Store(proc, at, n, v) }
func (w watched) Tags(proc, first, many int) []int {
	defer w.look()
	return w.m.Tags(proc, first, many)
}
func (w watched) Mark(proc, first, many, tag int) { defer w.look(); w.m.Mark(proc, first, many, tag) }

// look holds how often frames and slots are meant against what stands in
// tables, and what is remembered, too.
func (w watched) look() {
	w.t.Helper()
	m := w.m
	var frames [api.Frames]int
	var slots [api.Slots]int
	for _, root := range m.roots {
		if root == none {
			continue
		}
		frames[root]++
		for at := range api.Pages {
			if leaf, e := table.Leaf(m.bytes, root, at); e == api.OK && at%api.Fan == 0 {
				frames[leaf]++
			}
			switch x, _ := table.Get(m.bytes, root, at); x.Kind {
			case api.EntryHere:
				frames[x.N]++
			case api.EntryOut:
				slots[x.N]++
			}
		}
	}
	if !pool.Right(m.frames) || frames != m.frames.Refs {
		w.t.Fatalf("frames are meant so often: %v; the pool is %+v", frames, m.frames)
	}
	for n, s := range m.device {
		if s.Refs != slots[n] {
			w.t.Fatalf("slot %d is meant %d times, not %d", n, slots[n], s.Refs)
		}
	}
	for _, c := range m.known {
		if m.roots[c.Proc] == none || m.read(c.Proc, c.Page) != c.Entry {
			w.t.Fatalf("%+v is remembered, and is not so", c)
		}
	}
}

// done answers a machine on which ops were done under watch.
func done(t *testing.T, l []api.Op) *machine {
	t.Helper()
	m := blank()
	m.bear(0)
	flat.Do(l, watched{m: m, t: t})
	return m
}

// TestAllIsMeantAsOftenAsTablesSay watches walks of ops with many forks.
func TestAllIsMeantAsOftenAsTablesSay(t *testing.T) {
	x := uint64(0x9e3779b97f4a7c15)
	n := func(many int) int {
		x ^= x << 13
		x ^= x >> 7
		x ^= x << 17
		return int((x >> 1) % uint64(many))
	}
	kinds := []int{1, 1, 1, 2, 8, 8, 9, 10, 10, 10, 11, 11, 11, 11, 11, 13, 13, 14}
	for range 60 {
		l := []api.Op{{Kind: 1, Count: 16, Rights: 3, Tagged: true}}
		for range 300 {
			l = append(l, api.Op{Kind: kinds[n(len(kinds))], Proc: n(4), Page: n(64), Count: 1 + n(12), Rights: 3, Tagged: true, Draw: n(50), Addr: 16 * n(256), Size: 1 + n(4), Value: n(1 << 32)})
		}
		done(t, l)
	}
}

// TestFramesAreSharedUntilOneWrites counts frames, and slots.
func TestFramesAreSharedUntilOneWrites(t *testing.T) {
	l := []api.Op{{Kind: 1, Count: 4, Rights: 3}}
	for at := range 4 {
		l = append(l, api.Op{Kind: 11, Addr: 64 * at, Size: 1, Value: at})
	}
	steps := []struct {
		op            api.Op
		frames, slots int
	}{
		{api.Op{Kind: 8}, 8, 0},                                // two roots, two leaves, four pages
		{api.Op{Kind: 10, Proc: 1, Size: 1}, 8, 0},             // reading parts nothing
		{api.Op{Kind: 11, Proc: 1, Size: 1, Value: 9}, 9, 0},   // writing does
		{api.Op{Kind: 11, Size: 1, Value: 8}, 9, 0},            // what is one's own already is written as it is
		{api.Op{Kind: 14, Count: 2}, 7, 2},                     //
		{api.Op{Kind: 14, Count: 99}, 4, 5},                    // tables stay
		{api.Op{Kind: 8, Proc: 1}, 6, 5},                       // slots are shared, too
		{api.Op{Kind: 10, Addr: 192, Size: 1}, 7, 4},           // what all mean is brought in for all
		{api.Op{Kind: 11, Proc: 2, Addr: 192, Size: 1}, 8, 4},  //
		{api.Op{Kind: 11, Proc: 1, Addr: 128, Size: 1}, 10, 3}, // brought in for all, and then written by one
		{api.Op{Kind: 2, Proc: 1, Count: 4}, 9, 3},             //
		{api.Op{Kind: 9, Proc: 2}, 6, 2},                       //
		{api.Op{Kind: 9, Proc: 1}, 4, 2},                       //
		{api.Op{Kind: 9}, 0, 0},                                //
	}
	for _, s := range steps {
		l = append(l, s.op)
		if u := done(t, l).inUse(); u.Frames != s.frames || u.Slots != s.slots {
			t.Errorf("behind %+v: %+v; want %d and %d", s.op, u, s.frames, s.slots)
		}
	}
}

// TestEntriesAreRemembered looks at what is known behind looks at memory.
func TestEntriesAreRemembered(t *testing.T) {
	l := []api.Op{{Kind: 1, Count: 12, Rights: 3}}
	for at := range 12 {
		l = append(l, api.Op{Kind: 11, Addr: 64 * at, Size: 1, Value: at}, api.Op{Kind: 10, Addr: 64 * at, Size: 1})
	}
	m := done(t, l)
	if len(m.known) != api.MaxTlb || m.known[api.MaxTlb-1].Page != 11 {
		t.Errorf("remembered: %v", m.known)
	}
	if m := done(t, append(slices.Clone(l), api.Op{Kind: 14, Count: 99})); len(m.known) != 0 {
		t.Errorf("remembered, when all is taken back: %v", m.known)
	}
	if m := done(t, append(slices.Clone(l), api.Op{Kind: 9})); len(m.known) != 0 {
		t.Errorf("remembered, when nobody lives: %v", m.known)
	}
}

// wantKinds holds the entries of the first pages of process 0 against kinds.
func wantKinds(t *testing.T, m *machine, kinds ...int) {
	t.Helper()
	for at, kind := range kinds {
		if x := m.read(0, at); x.Kind != kind {
			t.Errorf("page %d: %+v; want kind %d", at, x, kind)
		}
	}
}

// TestEverybodysTurnComes takes pages back one by one, and looks which ones.
func TestEverybodysTurnComes(t *testing.T) {
	l := []api.Op{{Kind: 1, Count: 4, Rights: 3}}
	for at := range 4 {
		l = append(l, api.Op{Kind: 11, Addr: 64 * at, Size: 1, Value: at})
	}
	// The first one goes, as all were used.
	l = append(l, api.Op{Kind: 14, Count: 1})
	wantKinds(t, done(t, l), 2, 1, 1, 1)
	// The second one was looked at since.
	l = append(l, api.Op{Kind: 10, Addr: 64, Size: 1}, api.Op{Kind: 14, Count: 1})
	wantKinds(t, done(t, l), 2, 1, 2, 1)
	// It has its turn behind the last one.
	l = append(l, api.Op{Kind: 14, Count: 1})
	wantKinds(t, done(t, l), 2, 1, 2, 2)
}

// TestForkWhereNoFrameIsFree has tables of the child take the frames of each
// page of its parent, at each step of the fork.
func TestForkWhereNoFrameIsFree(t *testing.T) {
	l := []api.Op{{Kind: 1, Count: 62, Rights: 3}}
	for at := range 62 {
		l = append(l, api.Op{Kind: 11, Addr: 64 * at, Size: 1, Value: at})
	}
	for hand := range api.Frames {
		m := done(t, l)
		m.hand = hand
		clear(m.used)
		w := watched{m: m, t: t}
		w.Fork(0, 1)
		for at := range 62 {
			if a, b := m.read(0, at), m.read(1, at); a != b || a.Kind == api.EntryNone {
				t.Fatalf("page %d, from hand %d on: %+v, and %+v of the child", at, hand, a, b)
			}
			if a, b := w.Load(0, 64*at, 1), w.Load(1, 64*at, 1); a != at || b != at {
				t.Fatalf("page %d, from hand %d on: %d, and %d of the child", at, hand, a, b)
			}
		}
	}
}

// TestWhatIsOnesOwnIsWrittenWhereItIs, though there is another frame.
func TestWhatIsOnesOwnIsWrittenWhereItIs(t *testing.T) {
	l := []api.Op{{Kind: 1, Count: 2, Rights: 3}, {Kind: 11, Size: 1}, {Kind: 11, Addr: 64, Size: 1}, {Kind: 2, Count: 1}}
	was := done(t, l).read(0, 1)
	if x := done(t, append(l, api.Op{Kind: 11, Addr: 64, Size: 1})).read(0, 1); x != was {
		t.Errorf("page 1: %+v; it was %+v", x, was)
	}
}

// TestAMachineThatIsNotAsItMustBe answers nothing, and ends nobody else.
func TestAMachineThatIsNotAsItMustBe(t *testing.T) {
	l := []api.Op{{Kind: 1, Count: 2, Rights: 3}, {Kind: 11, Size: 4, Value: 5}, {Kind: 14, Count: 1}, {Kind: 10, Size: 4}, {Kind: 8}}
	spoils := map[string]func(m *machine){
		"no frames":      func(m *machine) { m.frames.Free = nil },
		"a wrong pool":   func(m *machine) { m.frames.Refs[5] = 1 },
		"no bytes":       func(m *machine) { m.bytes = nil },
		"no tags":        func(m *machine) { m.tags = nil },
		"no slots":       func(m *machine) { m.device = nil },
		"nothing used":   func(m *machine) { m.used = nil },
		"a hand far off": func(m *machine) { m.hand = -1 },
	}
	for why, spoil := range spoils {
		m := blank()
		spoil(m)
		if answers, used := m.run(l); answers != nil || used != (api.Used{}) {
			t.Errorf("%s: %v, %+v", why, answers, used)
		}
	}
	if answers, used := blank().run(l); len(answers) != len(l) || used.Frames == 0 {
		t.Errorf("as it must be: %v, %+v", answers, used)
	}
}

func TestMustEndsOnErrorsAlone(t *testing.T) {
	must(api.OK)
	defer func() {
		if e := recover(); e != api.ErrFull {
			t.Errorf("it ends by %v", e)
		}
	}()
	sure(5, api.ErrFull)
}
