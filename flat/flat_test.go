package flat_test

import (
	"math"
	"slices"
	"testing"

	"framewarden/api"
	"framewarden/flat"
)

// far are numbers beyond what an op may say of pages, keys, processes, sizes
// or addresses; some would be fine, were they cut to fewer bits or counted
// past an int's end.
var far = []int{math.MinInt, math.MinInt + 1, math.MinInt + 64, math.MinInt32, -1 << 40, -4096, -256, -64, -1, 4097, 4098, 4112, 8192, 1 << 16, 1<<16 + 1, 1 << 31, 1 << 32, 1<<32 + 1, 1<<32 + 16, 1 << 59, 1<<60 + 1, 1 << 62, math.MaxInt - 64, math.MaxInt - 63, math.MaxInt - 15, math.MaxInt - 1, math.MaxInt}

type ops = []api.Op

// good is short for what comes of an op that has no error.
func good(value int) api.Ans { return api.Ans{Value: value} }

// faulty is short for what comes of an op that faults.
func faulty(fault, at int) api.Ans {
	return api.Ans{Err: api.ErrFault, Fault: fault, At: at}
}

// samePage tells whether two pages are alike in all.
func samePage(a, b api.Page) bool {
	return a.N == b.N && slices.Equal(a.Bytes, b.Bytes) && slices.Equal(a.Tags, b.Tags)
}

// same tells whether two processes are alike in all.
func same(a, b api.Proc) bool {
	return a.Live == b.Live && a.Keys == b.Keys && slices.Equal(a.Regions, b.Regions) && slices.EqualFunc(a.Pages, b.Pages, samePage)
}

// wantModel runs l, holds it against the model, and answers what came.
func wantModel(t *testing.T, l ops) ([]api.Ans, [4]api.Proc) {
	t.Helper()
	answers, procs := flat.Run(l)
	if len(answers) != len(l) {
		t.Fatalf("%d answers of %d ops", len(answers), len(l))
	}
	m := newModel()
	for i, op := range l {
		if must := m.do(op); answers[i] != must {
			t.Fatalf("op %d, %+v: %+v; want %+v", i, op, answers[i], must)
		}
	}
	for i, must := range m.shown() {
		if !same(procs[i], must) {
			t.Fatalf("process %d behind %d ops: %+v; want %+v", i, len(l), procs[i], must)
		}
	}
	return answers, procs
}

// want holds what comes of op behind others, which must all go well, against
// what must come; and sees that an error changes nothing.
func want(t *testing.T, before ops, op api.Op, must api.Ans) {
	t.Helper()
	answers, procs := wantModel(t, slices.Concat(before, ops{op}))
	for i, a := range answers[:len(before)] {
		if a.Err != api.OK {
			t.Fatalf("op %d, %+v, has error %d", i, before[i], a.Err)
		}
	}
	if got := answers[len(before)]; got != must {
		t.Fatalf("%+v: %+v; want %+v", op, got, must)
	}
	if must.Err == api.OK {
		return
	}
	_, was := flat.Run(before)
	for i := range was {
		if !same(procs[i], was[i]) {
			t.Fatalf("%+v has an error, and changes process %d: %+v; it was %+v", op, i, procs[i], was[i])
		}
	}
}

// wantProc holds what a process is like behind ops against what it must be.
func wantProc(t *testing.T, l ops, n int, must api.Proc) {
	t.Helper()
	if _, procs := wantModel(t, l); !same(procs[n], must) {
		t.Fatalf("process %d: %+v; want %+v", n, procs[n], must)
	}
}

// blank answers page n with nothing in it.
func blank(n int) api.Page {
	return api.Page{N: n, Bytes: make([]byte, 64), Tags: make([]int, 4)}
}

// first are the keys with which a process begins.
var first = [4]api.Key{{Taken: true}}

func TestAtFirst(t *testing.T) {
	for _, l := range []ops{nil, {}} {
		answers, procs := flat.Run(l)
		if len(answers) != 0 {
			t.Errorf("answers of no ops: %v", answers)
		}
		for i, p := range procs {
			must := api.Proc{}
			if i == 0 {
				must = api.Proc{Live: true, Keys: first}
			}
			if !same(p, must) {
				t.Errorf("process %d at first: %+v", i, p)
			}
		}
	}
}

// TestTheDocumentsExample: tag 5 up to address 63: a load from 63 on faults at
// 64.
func TestTheDocumentsExample(t *testing.T) {
	l := ops{
		{Kind: api.OpMap, Count: 2, Rights: 3, Tagged: true},
		{Kind: api.OpTag, Addr: 0, Count: 4, Tag: 5},
	}
	want(t, l, api.Op{Kind: api.OpLoad, Addr: 63, Size: 2, Tag: 5}, faulty(api.FaultTag, 64))
	want(t, l, api.Op{Kind: api.OpLoad, Addr: 63, Size: 1, Tag: 5}, good(0))
	want(t, l, api.Op{Kind: api.OpLoad, Addr: 64, Size: 1}, good(0))
}

func TestKindsThatAreNone(t *testing.T) {
	for _, kind := range append([]int{0, 15, 16, 17, 255, 256, 257, 270}, far...) {
		for _, proc := range []int{0, 1, 3, 4, -1} {
			want(t, nil, api.Op{Kind: kind, Proc: proc, Count: 1}, bad(api.ErrKind))
		}
	}
}

func TestProcessesThatDoNotLive(t *testing.T) {
	for kind := 1; kind <= 13; kind++ {
		for _, proc := range append([]int{1, 2, 3, 4, 5, 64, 256}, far...) {
			want(t, nil, api.Op{Kind: kind, Proc: proc, Count: 1, Size: 1}, bad(api.ErrNone))
			// That no such process lives is told ahead of all that is wrong.
			want(t, nil, api.Op{Kind: kind, Proc: proc, Count: -1, Page: -1, Rights: 9, Key: 9, Tag: 16}, bad(api.ErrNone))
		}
	}
}

func TestReclaimChangesNothing(t *testing.T) {
	l := ops{{Kind: api.OpMap, Count: 3, Rights: 3}, {Kind: api.OpStore, Addr: 5, Size: 4, Value: 99}}
	_, was := flat.Run(l)
	for _, count := range append([]int{0, 1, 3, 64}, far...) {
		for _, proc := range []int{0, 1, 3, 4, -1, math.MinInt, math.MaxInt} {
			op := api.Op{Kind: api.OpReclaim, Proc: proc, Count: count, Tag: 99, Page: -1, Rights: -1}
			want(t, l, op, good(0))
			_, procs := flat.Run(append(slices.Clone(l), op))
			for i := range procs {
				if !same(procs[i], was[i]) {
					t.Fatalf("%+v changes process %d", op, i)
				}
			}
		}
	}
	want(t, ops{{Kind: api.OpExit}}, api.Op{Kind: api.OpReclaim, Count: 1}, good(0))
}

// TestFieldsThatAKindHasNotMeanNothing puts whatever it likes into them.
func TestFieldsThatAKindHasNotMeanNothing(t *testing.T) {
	base := ops{{Kind: api.OpMap, Count: 3, Rights: 3, Tagged: true}, {Kind: api.OpKeyNew}, {Kind: api.OpMap, Count: 1, Rights: 5}}
	x := -1 << 50
	for _, l := range []struct {
		op, other api.Op
		value     int
	}{
		{api.Op{Kind: 1, Count: 2}, api.Op{Kind: 1, Count: 2, Page: x, Addr: x, Size: x, Value: x, Tag: x}, 6},
		{api.Op{Kind: 2, Page: 1, Count: 1}, api.Op{Kind: 2, Page: 1, Count: 1, Rights: x, Key: x, Tagged: true, Draw: x, Addr: x, Size: x, Value: x, Tag: x}, 0},
		{api.Op{Kind: 3, Page: 1, Count: 1}, api.Op{Kind: 3, Page: 1, Count: 1, Tagged: true, Draw: x, Addr: x, Size: x, Value: x, Tag: x}, 0},
		{api.Op{Kind: 4, Page: 1, Count: 1}, api.Op{Kind: 4, Page: 1, Count: 1, Rights: x, Key: x, Tagged: true, Draw: x, Addr: x, Size: x, Value: x, Tag: x}, 0},
		{api.Op{Kind: 5}, api.Op{Kind: 5, Page: x, Count: x, Rights: x, Key: x, Tagged: true, Draw: x, Addr: x, Size: x, Value: x, Tag: x}, 2},
		{api.Op{Kind: 6, Key: 1}, api.Op{Kind: 6, Key: 1, Page: x, Count: x, Rights: x, Tagged: true, Draw: x, Addr: x, Size: x, Value: x, Tag: x}, 0},
		{api.Op{Kind: 7, Key: 1, Rights: 2}, api.Op{Kind: 7, Key: 1, Rights: 2, Page: x, Count: x, Tagged: true, Draw: x, Addr: x, Size: x, Value: x, Tag: x}, 0},
		{api.Op{Kind: 8}, api.Op{Kind: 8, Page: x, Count: x, Rights: x, Key: x, Tagged: true, Draw: x, Addr: x, Size: x, Value: x, Tag: x}, 1},
		{api.Op{Kind: 9}, api.Op{Kind: 9, Page: x, Count: x, Rights: x, Key: x, Tagged: true, Draw: x, Addr: x, Size: x, Value: x, Tag: x}, 0},
		{api.Op{Kind: 10, Addr: 5, Size: 2}, api.Op{Kind: 10, Addr: 5, Size: 2, Page: x, Count: x, Rights: x, Key: x, Tagged: true, Draw: x, Value: x}, 0},
		{api.Op{Kind: 11, Addr: 5, Size: 2, Value: 7}, api.Op{Kind: 11, Addr: 5, Size: 2, Value: 7, Page: x, Count: x, Rights: x, Key: x, Tagged: true, Draw: x}, 0},
		{api.Op{Kind: 12, Addr: 260, Size: 2}, api.Op{Kind: 12, Addr: 260, Size: 2, Page: x, Count: x, Rights: x, Key: x, Tagged: true, Draw: x, Value: x}, 0},
		{api.Op{Kind: 13, Addr: 16, Count: 2, Tag: 3}, api.Op{Kind: 13, Addr: 16, Count: 2, Tag: 3, Page: x, Size: x, Rights: x, Key: x, Tagged: true, Draw: x, Value: x}, 0},
	} {
		want(t, base, l.op, good(l.value))
		want(t, base, l.other, good(l.value))
		_, a := flat.Run(append(slices.Clone(base), l.op))
		_, b := flat.Run(append(slices.Clone(base), l.other))
		for i := range a {
			if !same(a[i], b[i]) {
				t.Fatalf("%+v does another thing than %+v", l.other, l.op)
			}
		}
	}
}

// TestWhatIsHandedInIsOnlyRead looks at the list, and at the room behind it.
func TestWhatIsHandedInIsOnlyRead(t *testing.T) {
	all := ops{{Kind: 1, Count: 2, Rights: 3}, {Kind: 11, Size: 4, Value: 1 << 20}, {Kind: 8}, {Kind: 9}, {Kind: 11, Proc: 1, Size: 1, Value: 9}}
	l := slices.Clone(all)
	answers, procs := flat.Run(l[:3])
	if !slices.Equal(l, all) {
		t.Errorf("Run changes what it is handed: %v", l)
	}
	l[0], l[1], l[2] = api.Op{Kind: 9}, api.Op{Kind: 9}, api.Op{Kind: 9}
	again, others := flat.Run(all[:3])
	if !slices.Equal(answers, again) {
		t.Errorf("answers %v, and then %v", answers, again)
	}
	for i := range procs {
		if !same(procs[i], others[i]) {
			t.Errorf("process %d: %+v, and then %+v", i, procs[i], others[i])
		}
	}
}

// TestAnswersAreNewMemory writes over all that one call answers, behind all
// lists' ends too, piece by piece, and looks at the rest.
func TestAnswersAreNewMemory(t *testing.T) {
	l := ops{{Kind: 1, Count: 3, Rights: 3, Tagged: true}, {Kind: 13, Count: 12, Tag: 1}, {Kind: 11, Addr: 62, Size: 4, Value: 0x01020304, Tag: 1}, {Kind: 3, Page: 1, Count: 1, Rights: 1}, {Kind: 8}, {Kind: 8}}
	_, must := flat.Run(l)
	_, got := flat.Run(l)
	for i := range got {
		p := &got[i]
		for j := range p.Pages {
			x := &p.Pages[j]
			spoil(x.Bytes, 77)
			spoil(x.Tags, 77)
			x.Bytes, x.Tags = must[i].Pages[j].Bytes, must[i].Pages[j].Tags
			if !same(*p, must[i]) {
				t.Fatalf("page %d of process %d shares memory with another one", j, i)
			}
		}
		spoil(p.Regions, api.Region{From: 77})
		p.Regions = must[i].Regions
		for k := range got {
			if !same(got[k], must[k]) {
				t.Fatalf("process %d shares memory with process %d", k, i)
			}
		}
	}
	if _, again := flat.Run(l); !same(again[0], must[0]) || !same(again[1], must[1]) {
		t.Error("Run keeps what it answered")
	}
}

// spoil writes x all over l, and over the room behind it.
func spoil[T any](l []T, x T) {
	l = l[:cap(l)]
	for i := range l {
		l[i] = x
	}
}
