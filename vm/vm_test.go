package vm_test

import (
	"math"
	"slices"
	"testing"

	"framewarden/api"
	"framewarden/vm"
)

// TestTheDocumentsExample: a page that was taken back is loaded as it was.
func TestTheDocumentsExample(t *testing.T) {
	l := ops{
		{Kind: api.OpMap, Count: 1, Rights: 3},
		{Kind: api.OpStore, Addr: 5, Size: 4, Value: 0x01020304},
		{Kind: api.OpReclaim, Count: 1},
	}
	want(t, l, api.Op{Kind: api.OpLoad, Addr: 5, Size: 4}, good(0x01020304))
	want(t, l, api.Op{Kind: api.OpLoad, Addr: 3, Size: 4}, good(0x03040000))
}

func TestNoOps(t *testing.T) {
	for _, l := range []ops{nil, {}} {
		answers, u := wantSeemly(t, l)
		if len(answers) != 0 || u.Frames < 1 {
			t.Errorf("Run of nothing: %v, %+v; process 0 lives", answers, u)
		}
	}
}

func TestErrorsAreThoseOfFlat(t *testing.T) {
	l := ops{{Kind: 1, Count: 3, Rights: 3, Tagged: true}, {Kind: 5}, {Kind: 4, Page: 2, Count: 1}, {Kind: 8}, {Kind: 9, Proc: 1}, all}
	for kind := range 16 {
		fine := api.Op{Kind: kind, Count: 1, Rights: 1, Addr: 16, Size: 1}
		var tries ops
		for _, x := range append([]int{0, 3, 4, 5, 15, 16, 17, 61, 64, 65}, far...) {
			for i := range 11 {
				op := fine
				*[]*int{&op.Kind, &op.Proc, &op.Page, &op.Count, &op.Rights, &op.Key, &op.Draw, &op.Addr, &op.Size, &op.Value, &op.Tag}[i] = x
				tries = append(tries, op)
			}
		}
		for _, op := range tries {
			wantSeemly(t, behind(l, op))
		}
		wantSeemly(t, behind(l, tries...))
	}
	want(t, l, api.Op{Kind: 0}, bad(api.ErrKind))
	want(t, l, api.Op{Kind: 15}, bad(api.ErrKind))
	want(t, l, api.Op{Kind: 10, Proc: 1, Size: 1}, bad(api.ErrNone))
	want(t, l, api.Op{Kind: 1, Count: 62}, bad(api.ErrFull))
	want(t, l, api.Op{Kind: 2, Page: 2, Count: 1}, bad(api.ErrHeld))
	want(t, l, api.Op{Kind: 10, Addr: 190, Size: 4}, api.Ans{Err: api.ErrFault, Fault: api.FaultMap, At: 192})
	want(t, l, api.Op{Kind: 10, Addr: 190, Size: 4, Tag: 1}, api.Ans{Err: api.ErrFault, Fault: api.FaultTag, At: 190})
}

// TestReclaimTakesAnyCount of frames that any process asks to take back.
func TestReclaimTakesAnyCount(t *testing.T) {
	l := behind(ops{{Kind: 1, Count: 5, Rights: 3, Tagged: true}}, written(0, 0, 5, 3)...)
	for _, count := range append([]int{0, 1, 2, 4, 5, 6, 63, 64, 65}, far...) {
		for _, proc := range []int{0, 1, 4, -1, math.MinInt, math.MaxInt} {
			op := api.Op{Kind: api.OpReclaim, Proc: proc, Count: count}
			want(t, l, op, good(0))
			wantSeemly(t, behind(behind(l, op, op), seen(0, 0, 5)...))
		}
	}
	want(t, ops{{Kind: api.OpExit}}, all, good(0))
	want(t, nil, all, good(0))
}

// TestTakenBackAtAnyTime has frames taken back behind each op of a list.
func TestTakenBackAtAnyTime(t *testing.T) {
	l := ops{{Kind: 1, Count: 6, Rights: 3, Tagged: true}}
	l = behind(l, written(0, 0, 6, 1)...)
	l = behind(l, api.Op{Kind: 8}, api.Op{Kind: 8, Proc: 1})
	l = behind(l, written(1, 2, 3, 2)...)
	l = behind(l, api.Op{Kind: 11, Proc: 2, Addr: 126, Size: 4, Value: -3}, api.Op{Kind: 13, Proc: 2, Addr: 48, Count: 9, Tag: 4})
	l = behind(l, api.Op{Kind: 2, Proc: 1, Page: 1, Count: 2}, api.Op{Kind: 9}, api.Op{Kind: 8, Proc: 2})
	for count := range 8 {
		for every := 1; every < 6; every++ {
			var m ops
			for i, op := range l {
				m = append(m, op)
				if i%every == 0 {
					m = append(m, api.Op{Kind: api.OpReclaim, Count: count})
				}
			}
			for proc := range 4 {
				m = behind(m, seen(proc, 0, 6)...)
				m = append(m, api.Op{Kind: api.OpReclaim, Count: count})
			}
			wantSeemly(t, m)
		}
	}
}

// TestMorePagesThanFrames fills all pages that there may be, beside which
// tables have no room in frames.
func TestMorePagesThanFrames(t *testing.T) {
	l := behind(ops{{Kind: 1, Count: 64, Rights: 3, Tagged: true}}, written(0, 0, 64, 7)...)
	_, u := wantSeemly(t, l)
	if u.Slots == 0 || u.Frames != 64 {
		t.Errorf("%+v: 64 pages and their tables are more than 64 frames", u)
	}
	wantSeemly(t, behind(l, seen(0, 0, 64)...))
	for range 3 {
		l = behind(l, written(0, 0, 64, 9)...)
		l = append(l, api.Op{Kind: api.OpReclaim, Count: 20})
	}
	wantSeemly(t, behind(l, seen(0, 0, 64)...))
	// Stores that go from one page to the next, in one that was taken back.
	for n := range 63 {
		l = append(l, api.Op{Kind: 11, Addr: 64*(n*37%63) + 62, Size: 4, Value: -n, Tag: 0}, api.Op{Kind: 10, Addr: 64*(n*37%63) + 61, Size: 4})
	}
	wantSeemly(t, behind(l, seen(0, 0, 64)...))
}

// TestNobodySeesWhatAnotherOneDoes has four that come of one write, each of
// them to pages that all had.
func TestNobodySeesWhatAnotherOneDoes(t *testing.T) {
	l := behind(ops{{Kind: 1, Count: 16, Rights: 3, Tagged: true}}, written(0, 0, 16, 5)...)
	l = behind(l, api.Op{Kind: 8}, api.Op{Kind: 8, Proc: 1}, api.Op{Kind: 8})
	for _, first := range []ops{{}, {all}} {
		for who := range 4 {
			m := behind(behind(l, first...), written(who, 3, 4, 11+who)...)
			m = behind(m, written((who+1)%4, 5, 6, 1+who)...)
			for proc := range 4 {
				m = behind(m, seen(proc, 2, 10)...)
			}
			wantSeemly(t, m)
		}
	}
}

// TestNewPagesAreEmpty writes all over memory, gives it back, and looks at
// pages that are new, of all processes.
func TestNewPagesAreEmpty(t *testing.T) {
	l := ops{{Kind: 8}, {Kind: 1, Count: 64, Rights: 3, Tagged: true}}
	for at := 0; at < 4096; at += 4 {
		l = append(l, api.Op{Kind: 11, Addr: at, Size: 4, Value: -1})
	}
	l = append(l, api.Op{Kind: 13, Count: 256, Tag: 15})
	for _, way := range []ops{
		{{Kind: 2, Count: 64}, {Kind: 1, Count: 20, Rights: 3, Tagged: true}},
		{{Kind: 9}, {Kind: 1, Proc: 1, Count: 20, Rights: 3, Tagged: true}, {Kind: 8, Proc: 1}},
		{{Kind: 2, Page: 3, Count: 30}, {Kind: 1, Count: 20, Rights: 3, Tagged: true, Draw: 4}, {Kind: 1, Proc: 1, Count: 1, Rights: 3}},
	} {
		for _, first := range []ops{{}, {all}} {
			m := behind(behind(l, first...), way...)
			for proc := range 2 {
				m = behind(m, seen(proc, 0, 34)...)
			}
			wantSeemly(t, m)
		}
	}
	gone := behind(l, api.Op{Kind: 9}, api.Op{Kind: 1, Proc: 1, Count: 1, Rights: 1, Tagged: true})
	want(t, gone, api.Op{Kind: 10, Proc: 1, Size: 4}, good(0))
}

// TestWhoLeavesLeavesNothing has four that have much in common leave, in every
// order, some of it being in slots.
func TestWhoLeavesLeavesNothing(t *testing.T) {
	l := behind(ops{{Kind: 1, Count: 16, Rights: 3, Tagged: true}}, written(0, 0, 16, 5)...)
	l = behind(l, api.Op{Kind: 8}, api.Op{Kind: 8, Proc: 1}, api.Op{Kind: 8, Proc: 2})
	l = behind(l, written(2, 3, 9, 1)...)
	l = append(l, api.Op{Kind: api.OpReclaim, Count: 12})
	for a := range 4 {
		for b := range 4 {
			for c := range 4 {
				d := 6 - a - b - c
				if a == b || b == c || a == c {
					continue
				}
				m := l
				for _, proc := range []int{a, b, c, d} {
					m = append(slices.Clone(m), api.Op{Kind: api.OpExit, Proc: proc})
					_, u := wantSeemly(t, m)
					if proc == d && u != (api.Used{}) {
						t.Errorf("%+v behind the exits of all", u)
					}
					m = behind(m, seen(d, 0, 16)...)
				}
			}
		}
	}
}

// TestANumberThatIsTakenAgain has nothing of who had it before, wherever that
// was.
func TestANumberThatIsTakenAgain(t *testing.T) {
	l := behind(ops{{Kind: 1, Count: 8, Rights: 3, Tagged: true}}, written(0, 0, 8, 2)...)
	l = append(l, api.Op{Kind: 8})
	l = behind(l, written(1, 0, 8, 6)...)
	l = behind(l, seen(1, 0, 1)...)
	for _, first := range []ops{{}, {all}} {
		m := behind(behind(l, first...), api.Op{Kind: 9, Proc: 1}, api.Op{Kind: 8})
		wantSeemly(t, behind(m, seen(1, 0, 8)...))
		m = behind(behind(l, first...), api.Op{Kind: 9}, api.Op{Kind: 8, Proc: 1})
		wantSeemly(t, behind(m, seen(0, 0, 8)...))
	}
}

// forked answers l, and a fork of proc behind it that must go well and cost
// tables alone.
func forked(t *testing.T, l ops, proc int) ops {
	t.Helper()
	_, was := wantSeemly(t, l)
	m := behind(l, api.Op{Kind: api.OpFork, Proc: proc})
	answers, u := wantSeemly(t, m)
	if a := answers[len(l)]; a.Err != api.OK {
		t.Fatalf("a fork: %+v", a)
	}
	wantCheap(t, was, u)
	return m
}

// TestForksCostNoPages forks with few pages and with many, in frames and in
// slots.
func TestForksCostNoPages(t *testing.T) {
	for count := 1; count <= 32; count++ {
		l := behind(ops{{Kind: 1, Count: count, Rights: 3, Tagged: true, Draw: 3}}, written(0, 3, count, 5)...)
		for _, first := range []ops{{}, {all}, {{Kind: 14, Count: count / 2}}} {
			m := behind(l, first...)
			for proc := 0; proc < min(3, 64/count-1); proc++ {
				m = forked(t, m, proc)
			}
			for proc := range 4 {
				m = behind(m, seen(proc, 3, 2)...)
			}
			wantSeemly(t, m)
		}
	}
}

// TestForksOfManyTables has two pages in each leaf, so that there are as many
// tables as there may be; and forks of a process that has no pages.
func TestForksOfManyTables(t *testing.T) {
	var l ops
	for n := range 16 {
		// Every fourth page: there is room at one place between any two, and
		// at two more ahead of the next one.
		l = append(l, api.Op{Kind: 1, Count: 1, Rights: 3, Draw: n + min(n, 1)}, api.Op{Kind: 11, Addr: 64 * 4 * n, Size: 1, Value: n})
	}
	if _, u := wantSeemly(t, l); u.Frames != 16+9 {
		t.Fatalf("%+v: there are 16 pages, and 9 tables", u)
	}
	for _, first := range []ops{{}, {all}} {
		wantSeemly(t, forked(t, forked(t, forked(t, behind(l, first...), 0), 1), 2))
		forked(t, forked(t, forked(t, first, 0), 0), 0)
	}
}

// TestForksWhereNoFrameIsFree have to have pages leave theirs for tables.
func TestForksWhereNoFrameIsFree(t *testing.T) {
	l := ops{{Kind: 8}, {Kind: 8}, {Kind: 1, Count: 28, Rights: 3, Tagged: true}, {Kind: 1, Proc: 1, Count: 8, Rights: 3, Draw: 9}}
	l = behind(l, written(0, 0, 28, 1)...)
	l = behind(l, written(1, 9, 8, 2)...)
	l = append(l, api.Op{Kind: 1, Proc: 2, Count: 20, Rights: 3, Tagged: true})
	l = behind(l, written(2, 0, 20, 3)...)
	_, u := wantSeemly(t, l)
	if u.Frames != 64 {
		t.Fatalf("%+v: a frame is free", u)
	}
	m := forked(t, l, 1)
	for proc := range 4 {
		m = behind(m, seen(proc, 0, 28)...)
	}
	wantSeemly(t, m)
	m = behind(l, api.Op{Kind: 9, Proc: 2}, api.Op{Kind: 2, Page: 20, Count: 8})
	m = behind(m, written(0, 0, 20, 8)...)
	m = forked(t, m, 0)
	for proc := range 3 {
		m = behind(m, written(proc, 2, 15, proc)...)
		m = behind(m, seen(0, 0, 20)...)
		m = behind(m, seen(2, 0, 20)...)
	}
	wantSeemly(t, m)
}

// TestWhatIsHandedInIsOnlyRead looks at the list, and at the room behind it.
func TestWhatIsHandedInIsOnlyRead(t *testing.T) {
	whole := ops{{Kind: 1, Count: 2, Rights: 3}, {Kind: 11, Size: 4, Value: 1 << 20}, {Kind: 8}, {Kind: 9}, {Kind: 11, Proc: 1, Size: 1, Value: 9}}
	l := slices.Clone(whole)
	answers, used := vm.Run(l[:3])
	if !slices.Equal(l, whole) {
		t.Errorf("Run changes what it is handed: %v", l)
	}
	l[0], l[1], l[2] = api.Op{Kind: 9}, api.Op{Kind: 9}, api.Op{Kind: 9}
	again, u := vm.Run(whole[:3])
	if !slices.Equal(answers, again) || u != used {
		t.Errorf("answers %v, %v, and then %v, %v", answers, used, again, u)
	}
	answers = answers[:cap(answers)]
	for i := range answers {
		answers[i].Value = 77
	}
	wantSeemly(t, whole[:3])
}
