package tlb_test

import (
	"math"
	"slices"
	"testing"

	"framewarden/api"
	"framewarden/tlb"
)

// far are numbers that no process, page, kind or frame has; some would be
// one, were they cut to fewer bits.
var far = []int{math.MinInt, math.MinInt + 1, math.MinInt32, -1 << 40, -257, -256, -65, -64, -2, -1, 3, 4, 8, 64, 65, 256, 257, 1 << 31, 1 << 32, 1<<32 + 1, 1 << 62, math.MaxInt - 1, math.MaxInt}

func c(proc, page, kind, n int) api.Cached {
	return api.Cached{Proc: proc, Page: page, Entry: api.Entry{Kind: kind, N: n}}
}

// here remembers a page that is in a frame.
func here(proc, page, frame int) api.Cached { return c(proc, page, api.EntryHere, frame) }

// gone tells that a process has that page no more.
func gone(proc, page int) api.Cached { return c(proc, page, api.EntryNone, 0) }

// row remembers n pages of a process, from a page on.
func row(proc, from, n int) []api.Cached {
	var l []api.Cached
	for i := range n {
		l = append(l, here(proc, from+i, i))
	}
	return l
}

func join(l ...[]api.Cached) []api.Cached { return slices.Concat(l...) }

// model keeps what it remembers in a map by process and page, with the time
// at which it was told, and looks for the earliest ones by that time.
func model(l []api.Cached) []api.Cached {
	type spot struct{ proc, page int }
	type told struct {
		when int
		what api.Cached
	}
	seen := map[spot]told{}
	first := func() spot {
		var at spot
		when := math.MaxInt
		for k, v := range seen {
			if v.when < when {
				at, when = k, v.when
			}
		}
		return at
	}
	for i, x := range l {
		if x.Page < 0 {
			for k := range seen {
				if k.proc == x.Proc {
					delete(seen, k)
				}
			}
			continue
		}
		delete(seen, spot{x.Proc, x.Page})
		if x.Entry.Kind != 0 {
			seen[spot{x.Proc, x.Page}] = told{i, x}
		}
		if len(seen) == 9 {
			delete(seen, first())
		}
	}
	var out []api.Cached
	for len(seen) > 0 {
		out = append(out, seen[first()].what)
		delete(seen, first())
	}
	return out
}

func want(t *testing.T, l, must []api.Cached) {
	t.Helper()
	if got := tlb.Play(l); !slices.Equal(got, must) {
		t.Errorf("Play of %v: %v; want %v", l, got, must)
	}
}

func TestTheDocumentsExample(t *testing.T) {
	want(t, []api.Cached{here(1, 2, 3), here(1, 2, 4), c(1, 2, api.EntryOut, 5)}, []api.Cached{c(1, 2, api.EntryOut, 5)})
}

func TestNothingToldNothingRemembered(t *testing.T) {
	for _, l := range [][]api.Cached{nil, {}, make([]api.Cached, 0, 9)} {
		want(t, l, nil)
	}
}

func TestOneIsRememberedWhole(t *testing.T) {
	for proc := range api.Procs {
		for page := range api.Pages {
			for _, kind := range []int{api.EntryHere, api.EntryOut} {
				l := []api.Cached{c(proc, page, kind, 63-page)}
				want(t, l, l)
			}
		}
	}
}

func TestAPageToldAgainStandsLast(t *testing.T) {
	l := row(0, 10, 4)
	for i := range l {
		again := here(0, 10+i, 50)
		want(t, append(slices.Clone(l), again), append(slices.Delete(slices.Clone(l), i, i+1), again))
		want(t, append(slices.Clone(l), l[i]), append(slices.Delete(slices.Clone(l), i, i+1), l[i]))
	}
}

func TestAPageThatIsNoneIsForgotten(t *testing.T) {
	l := row(2, 10, 8)
	for i := range l {
		want(t, append(slices.Clone(l), gone(2, 10+i)), slices.Delete(slices.Clone(l), i, i+1))
		// What N such an entry has means nothing.
		want(t, append(slices.Clone(l), c(2, 10+i, api.EntryNone, 7)), slices.Delete(slices.Clone(l), i, i+1))
	}
	want(t, append(slices.Clone(l), gone(2, 9), gone(2, 18), gone(1, 10), gone(3, 17)), l)
	want(t, []api.Cached{gone(0, 0), gone(1, 5)}, nil)
}

func TestAPageThatIsNoneTakesNoRoom(t *testing.T) {
	l := row(0, 0, 8)
	want(t, append(slices.Clone(l), gone(0, 20), gone(1, 0), gone(3, 63)), l)
	want(t, join(l, []api.Cached{gone(0, 3), here(1, 1, 1)}), join(l[:3], l[4:], []api.Cached{here(1, 1, 1)}))
}

func TestPagesOfProcessesAreApart(t *testing.T) {
	l := []api.Cached{here(0, 5, 1), here(1, 5, 2), here(2, 5, 3), here(3, 5, 4), here(5, 0, 5)}
	want(t, l, l)
	want(t, append(slices.Clone(l), gone(1, 5)), join(l[:1], l[2:]))
	want(t, append(slices.Clone(l), here(2, 5, 9)), join(l[:2], l[3:], []api.Cached{here(2, 5, 9)}))
}

func TestAPageBelowNoughtForgetsTheProcess(t *testing.T) {
	mixed := []api.Cached{here(0, 0, 1), here(1, 0, 2), here(0, 63, 3), here(2, 1, 4), c(0, 7, api.EntryOut, 5), here(1, 9, 6)}
	rest := []api.Cached{here(1, 0, 2), here(2, 1, 4), here(1, 9, 6)}
	for _, page := range far {
		if page >= 0 {
			continue
		}
		for _, kind := range []int{api.EntryNone, api.EntryHere, api.EntryOut, 3, -1} {
			want(t, append(slices.Clone(mixed), c(0, page, kind, 8)), rest)
			want(t, append(slices.Clone(mixed), c(3, page, kind, 8)), mixed)
			want(t, []api.Cached{c(0, page, kind, 8)}, nil)
		}
	}
	want(t, append(slices.Clone(mixed), gone(0, -1), here(0, 63, 9)), append(slices.Clone(rest), here(0, 63, 9)))
	want(t, append(slices.Clone(mixed), gone(0, -1), gone(2, -1), gone(1, -1)), nil)
}

func TestNoMoreThanEightTheFirstOneGoes(t *testing.T) {
	l := row(1, 0, 60)
	for n := range 61 {
		want(t, l[:n], l[max(0, n-8):n])
	}
}

func TestAPageToldAgainPushesNobodyOut(t *testing.T) {
	l := row(0, 0, 8)
	want(t, append(slices.Clone(l), here(0, 0, 9)), append(slices.Clone(l[1:]), here(0, 0, 9)))
	want(t, append(slices.Clone(l), here(0, 7, 9)), append(slices.Clone(l[:7]), here(0, 7, 9)))
	// The page that was first is last now, so the second one goes.
	want(t, append(slices.Clone(l), here(0, 0, 9), here(1, 1, 1)), append(slices.Clone(l[2:]), here(0, 0, 9), here(1, 1, 1)))
}

func TestWhoGoesIsTheFirstOfAllProcesses(t *testing.T) {
	l := []api.Cached{here(3, 9, 0)}
	l = append(l, row(0, 0, 7)...)
	want(t, append(slices.Clone(l), here(0, 7, 7)), append(slices.Clone(l[1:]), here(0, 7, 7)))
}

func TestWhatWasPushedOutDoesNotComeBack(t *testing.T) {
	l := row(0, 0, 9)
	want(t, append(slices.Clone(l), gone(0, 8)), l[1:8])
	want(t, append(slices.Clone(l), gone(0, 8), here(2, 2, 2)), append(slices.Clone(l[1:8]), here(2, 2, 2)))
}

func TestRoomThatWasForgottenIsThereAgain(t *testing.T) {
	l := join(row(0, 0, 4), row(1, 0, 4), []api.Cached{gone(0, -1)}, row(2, 0, 4))
	want(t, l, join(row(1, 0, 4), row(2, 0, 4)))
	want(t, append(l, here(3, 0, 0)), join(row(1, 0, 4)[1:], row(2, 0, 4), []api.Cached{here(3, 0, 0)}))
}

func TestNumbersAreNotHeldToAnyBound(t *testing.T) {
	for _, n := range far {
		for _, x := range []api.Cached{here(n, 0, 1), here(0, 1, n), c(0, 1, api.EntryOut, n), c(0, 1, n, 1), c(n, 1, n, n)} {
			want(t, []api.Cached{x}, []api.Cached{x})
			want(t, []api.Cached{x, gone(x.Proc, -1)}, nil)
			want(t, []api.Cached{x, gone(x.Proc, x.Page)}, nil)
			want(t, []api.Cached{x, gone(x.Proc+1, x.Page), gone(x.Proc, x.Page+1), gone(x.Proc+1, -1)}, []api.Cached{x})
		}
		if n >= 0 {
			l := []api.Cached{here(0, 0, 1), here(0, n, 2), here(0, 1, 3)}
			want(t, l, l)
		}
	}
}

// many answers n things told, by a rule that repeats late.
func many(n, seed int) []api.Cached {
	l := make([]api.Cached, n)
	x := uint32(seed)
	next := func(below int) int {
		x = x*1664525 + 1013904223
		return int(x>>16) % below
	}
	for i := range l {
		l[i] = c(next(3), next(9), next(3), next(64))
		if next(20) == 0 {
			l[i].Page = -1 - next(3)
		}
	}
	return l
}

func TestManyAsTheModelHasThem(t *testing.T) {
	for seed := range 300 {
		l := many(seed, seed)
		want(t, l, model(l))
	}
	l := many(200000, 7)
	want(t, l, model(l))
}

func TestToldInTwoPartsIsToldInOne(t *testing.T) {
	l := many(60, 11)
	for n := range l {
		want(t, join(tlb.Play(l[:n]), l[n:]), tlb.Play(l))
	}
}

func TestSpareRoomIsNeitherSeenNorChanged(t *testing.T) {
	l := many(40, 5)
	before := slices.Clone(l)
	for n := range l {
		want(t, l[:n], model(before[:n]))
		want(t, l[n:n+1], model(before[n:n+1]))
	}
	if !slices.Equal(l, before) {
		t.Error("what was handed in, or the room behind it, was changed")
	}
}

func TestWhatIsAnsweredIsNewMemory(t *testing.T) {
	for _, n := range []int{1, 7, 8, 9, 30} {
		l := row(0, 0, n)
		got := tlb.Play(l)
		for i := range got {
			got[i] = here(9, 9, 9)
		}
		if !slices.Equal(l, row(0, 0, n)) {
			t.Error("a change of an answer is in the list")
		}
		got = tlb.Play(l)
		clear(l)
		if !slices.Equal(got, row(0, 0, n)[max(0, n-8):]) {
			t.Error("a change of the list is in an answer")
		}
	}
}

func FuzzPlay(f *testing.F) {
	f.Add([]byte{0, 1, 1, 2, 0, 255, 0, 0, 1, 1, 2, 3})
	f.Add([]byte{1, 1, 1, 1, 1, 2, 1, 1, 1, 3, 1, 1, 1, 4, 1, 1, 1, 5, 1, 1, 1, 6, 1, 1, 1, 7, 1, 1, 1, 8, 1, 1, 1, 9, 1, 1})
	f.Fuzz(func(t *testing.T, b []byte) {
		var l []api.Cached
		for ; len(b) >= 4; b = b[4:] {
			l = append(l, c(int(b[0]%4), int(int8(b[1])), int(b[2]%4), int(b[3])))
		}
		want(t, l, model(l))
	})
}
