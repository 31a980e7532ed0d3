package vm_test

import (
	"math"
	"slices"
	"testing"

	"framewarden/api"
	"framewarden/flat"
	"framewarden/vm"
)

type ops = []api.Op

// far are numbers that are far off; some would be near, were they cut to fewer
// bits.
var far = []int{math.MinInt, math.MinInt + 1, math.MinInt32, -1 << 40, -4097, -65, -64, -2, -1, 4097, 1 << 31, 1 << 32, 1<<32 + 1, 1 << 58, 1 << 60, 1 << 62, math.MaxInt - 63, math.MaxInt - 1, math.MaxInt}

// all has every frame taken back that can be.
var all = api.Op{Kind: api.OpReclaim, Count: api.Frames}

// behind answers l and what comes behind it, in new memory.
func behind(l ops, more ...api.Op) ops {
	return slices.Concat(l, more)
}

// wantSeemly holds the answers of Run of l against how it seems, and what it
// says is in use against what there may be; and answers both.
func wantSeemly(t *testing.T, l ops) ([]api.Ans, api.Used) {
	t.Helper()
	must, procs := flat.Run(l)
	got, used := vm.Run(l)
	if !slices.Equal(got, must) {
		for i := range must {
			if i >= len(got) || got[i] != must[i] {
				t.Fatalf("op %d of %d, %+v: %+v", i, len(l), l[i], must[i])
			}
		}
		t.Fatalf("%d answers to %d ops", len(got), len(l))
	}
	wantBounds(t, used, procs)
	return got, used
}

// wantBounds holds what is in use against what processes have.
func wantBounds(t *testing.T, u api.Used, procs [4]api.Proc) {
	t.Helper()
	live, pages := 0, 0
	for _, p := range procs {
		if p.Live {
			live++
		}
		pages += len(p.Pages)
	}
	if u.Frames < 0 || u.Frames > 64 || u.Slots < 0 || u.Slots > 64 {
		t.Fatalf("%+v: there are 64 of both", u)
	}
	if live == 0 && u != (api.Used{}) {
		t.Fatalf("%+v: no process lives", u)
	}
	if u.Frames+u.Slots > pages+9*live {
		t.Fatalf("%+v: there are %d pages and %d processes", u, pages, live)
	}
	if u.Frames < live {
		t.Fatalf("%+v: %d processes live", u, live)
	}
}

// wantEach holds Run of each beginning of l against how it seems, and sees
// that a fork costs tables alone.
func wantEach(t *testing.T, l ops) {
	t.Helper()
	_, was := wantSeemly(t, nil)
	for n := range l {
		answers, u := wantSeemly(t, l[:n+1])
		if l[n].Kind == api.OpFork && answers[n].Err == api.OK {
			wantCheap(t, was, u)
		}
		was = u
	}
}

// wantCheap holds what is in use behind a fork against what was ahead of it.
func wantCheap(t *testing.T, was, u api.Used) {
	t.Helper()
	if more := u.Frames + u.Slots - was.Frames - was.Slots; more < 1 || more > 9 {
		t.Fatalf("a fork costs %d: %+v, and it was %+v", more, u, was)
	}
}

// want does op behind l, and holds what comes of it against what must.
func want(t *testing.T, l ops, op api.Op, must api.Ans) {
	t.Helper()
	answers, _ := wantSeemly(t, behind(l, op))
	if got := answers[len(l)]; got != must {
		t.Errorf("%+v behind %d ops: %+v; want %+v", op, len(l), got, must)
	}
}

func good(value int) api.Ans { return api.Ans{Value: value} }

func bad(e api.Errno) api.Ans { return api.Ans{Err: e} }

// written answers ops by which proc writes to count pages from page on: 4
// bytes at a place that hangs on the page, and a tag of its second granule;
// all bytes hang on seed too.
func written(proc, page, count, seed int) ops {
	var l ops
	for n := page; n < page+count; n++ {
		l = append(l,
			api.Op{Kind: api.OpStore, Proc: proc, Addr: 64*n + n%13, Size: 4, Value: 0x01010101*n + seed<<16 + 1},
			api.Op{Kind: api.OpTag, Proc: proc, Addr: 64*n + 16, Count: 1, Tag: (n + seed) % 15},
		)
	}
	return l
}

// seen answers ops by which proc reads all that is in count pages from page
// on, with every tag.
func seen(proc, page, count int) ops {
	var l ops
	for at := 64 * page; at < 64*(page+count); at += 4 {
		// A tag that does not fit faults, so all of 0 to 15 tell which it is.
		for tag := range 16 {
			l = append(l, api.Op{Kind: api.OpLoad, Proc: proc, Addr: at, Size: 4, Tag: tag})
		}
	}
	return l
}
