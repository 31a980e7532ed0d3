package flat_test

import (
	"slices"
	"testing"

	"framewarden/api"
	"framewarden/flat"
)

// strict is a memory that knows single addresses, and what it may be told.
type strict struct {
	t     *testing.T
	lives [4]bool
	bytes [4]map[int]int
	tags  [4]map[int]int
	taken []int // what was asked of Reclaim
}

func newStrict(t *testing.T) *strict {
	s := &strict{t: t}
	s.bear(0)
	return s
}

func (s *strict) bear(proc int) {
	s.lives[proc], s.bytes[proc], s.tags[proc] = true, map[int]int{}, map[int]int{}
}

// wantLive sees that proc lives.
func (s *strict) wantLive(proc int) {
	s.t.Helper()
	if !s.lives[proc] {
		s.t.Fatalf("process %d does not live", proc)
	}
}

// wantOnePage sees that there is something from a place on, all in one page.
func (s *strict) wantOnePage(proc, at, n, each int) {
	s.t.Helper()
	s.wantLive(proc)
	if at < 0 || n < 1 || at/each != (at+n-1)/each || at/each >= api.Pages {
		s.t.Fatalf("%d from %d on, by %d, are not of one page", n, at, each)
	}
}

func (s *strict) Cut(proc, from, to int) {
	s.wantLive(proc)
	if from < 0 || to > 64 || from >= to {
		s.t.Fatalf("pages %d to %d", from, to)
	}
	for at := 64 * from; at < 64*to; at++ {
		delete(s.bytes[proc], at)
		delete(s.tags[proc], at/16)
	}
}

func (s *strict) Fork(proc, child int) {
	s.wantLive(proc)
	if s.lives[child] {
		s.t.Fatalf("process %d lives", child)
	}
	s.bear(child)
	for at, v := range s.bytes[proc] {
		s.bytes[child][at] = v
	}
	for at, tag := range s.tags[proc] {
		s.tags[child][at] = tag
	}
}

func (s *strict) Exit(proc int) {
	s.wantLive(proc)
	s.lives[proc], s.bytes[proc], s.tags[proc] = false, nil, nil
}

func (s *strict) Reclaim(count int) { s.taken = append(s.taken, count) }

func (s *strict) Load(proc, at, n int) int {
	s.wantOnePage(proc, at, n, 64)
	v := 0
	for i := n - 1; i >= 0; i-- {
		v = 256*v + s.bytes[proc][at+i]
	}
	return v
}

func (s *strict) Store(proc, at, n, v int) {
	s.wantOnePage(proc, at, n, 64)
	for i := range n {
		s.bytes[proc][at+i] = v & 255
		v >>= 8
	}
}

func (s *strict) Tags(proc, first, many int) []int {
	s.wantOnePage(proc, first, many, 4)
	var l []int
	for i := range many {
		l = append(l, s.tags[proc][first+i])
	}
	return l
}

func (s *strict) Mark(proc, first, many, tag int) {
	s.wantOnePage(proc, first, many, 4)
	for i := range many {
		s.tags[proc][first+i] = tag
	}
}

// TestDoAnswersAsRunDoes, whatever memory it has, and asks it for nothing but
// what it may.
func TestDoAnswersAsRunDoes(t *testing.T) {
	for seed := range 100 {
		n := draws(uint64(seed) + 3000)
		var l ops
		var counts []int
		for range 300 {
			op := drawn(n)
			l = append(l, op)
			if op.Kind == api.OpReclaim {
				counts = append(counts, op.Count)
			}
		}
		s := newStrict(t)
		must, _ := flat.Run(l)
		got := flat.Do(l, s)
		for i := range must {
			if got[i] != must[i] {
				t.Fatalf("op %d, %+v: %+v; Run answers %+v", i, l[i], got[i], must[i])
			}
		}
		if !slices.Equal(s.taken, counts) {
			t.Fatalf("to be taken back: %v; want %v", s.taken, counts)
		}
	}
}
