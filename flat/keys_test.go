package flat_test

import (
	"testing"

	"framewarden/api"
	"framewarden/flat"
)

func TestKeyNew(t *testing.T) {
	var l ops
	for k := 1; k < 4; k++ {
		want(t, l, api.Op{Kind: api.OpKeyNew}, good(k))
		l = append(l, api.Op{Kind: api.OpKeyNew})
	}
	want(t, l, api.Op{Kind: api.OpKeyNew}, bad(api.ErrFull))
	wantProc(t, l, 0, api.Proc{Live: true, Keys: [4]api.Key{{Taken: true}, {Taken: true}, {Taken: true}, {Taken: true}}})
	// The least one that was given back comes first, and denies nothing.
	l = behind(l, api.Op{Kind: api.OpKeySet, Key: 2, Rights: 3}, api.Op{Kind: api.OpKeyFree, Key: 3}, api.Op{Kind: api.OpKeyFree, Key: 2})
	want(t, l, api.Op{Kind: api.OpKeyNew}, good(2))
	wantProc(t, behind(l, api.Op{Kind: api.OpKeyNew}), 0, api.Proc{Live: true, Keys: [4]api.Key{{Taken: true}, {Taken: true}, {Taken: true}, {}}})
}

func TestKeyFree(t *testing.T) {
	l := ops{{Kind: api.OpKeyNew}, {Kind: api.OpKeyNew}, {Kind: api.OpKeySet, Key: 1, Rights: 2}}
	want(t, l, api.Op{Kind: api.OpKeyFree, Key: 1}, good(0))
	wantProc(t, behind(l, api.Op{Kind: api.OpKeyFree, Key: 1}), 0, api.Proc{Live: true, Keys: [4]api.Key{{Taken: true}, {}, {Taken: true}}})
	for _, k := range append([]int{0, 3, 4, 5, 256, 257}, far...) {
		want(t, l, api.Op{Kind: api.OpKeyFree, Key: k}, bad(api.ErrNone))
	}
	want(t, behind(l, api.Op{Kind: api.OpKeyFree, Key: 1}), api.Op{Kind: api.OpKeyFree, Key: 1}, bad(api.ErrNone))
}

// TestKeysThatPagesHaveStay gives keys back that pages had, and have.
func TestKeysThatPagesHaveStay(t *testing.T) {
	l := ops{{Kind: api.OpKeyNew}, {Kind: api.OpKeyNew}, {Kind: api.OpMap, Count: 1}, {Kind: api.OpMap, Count: 2, Key: 1}}
	held := api.Op{Kind: api.OpKeyFree, Key: 1}
	want(t, l, held, bad(api.ErrHeld))
	want(t, l, api.Op{Kind: api.OpKeyFree, Key: 2}, good(0))
	want(t, l, api.Op{Kind: api.OpKeyFree, Key: 0}, bad(api.ErrNone))
	want(t, behind(l, api.Op{Kind: api.OpUnmap, Page: 2, Count: 1}), held, bad(api.ErrHeld))
	want(t, behind(l, api.Op{Kind: api.OpUnmap, Page: 2, Count: 2}), held, good(0))
	other := behind(l, api.Op{Kind: api.OpProtect, Page: 2, Count: 2, Key: 2})
	want(t, other, held, good(0))
	want(t, other, api.Op{Kind: api.OpKeyFree, Key: 2}, bad(api.ErrHeld))
	want(t, behind(l, api.Op{Kind: api.OpProtect, Page: 3, Count: 1}), held, bad(api.ErrHeld))
	// Another process's pages do not hold it.
	two := behind(l, api.Op{Kind: api.OpFork}, api.Op{Kind: api.OpUnmap, Count: 64})
	want(t, two, held, good(0))
	want(t, two, api.Op{Kind: api.OpKeyFree, Proc: 1, Key: 1}, bad(api.ErrHeld))
}

func TestKeySet(t *testing.T) {
	l := ops{{Kind: api.OpKeyNew}}
	for deny := range 4 {
		for k := range 2 {
			set := api.Op{Kind: api.OpKeySet, Key: k, Rights: deny}
			want(t, l, set, good(0))
			must := api.Proc{Live: true, Keys: [4]api.Key{{Taken: true}, {Taken: true}}}
			must.Keys[k].Deny = deny
			wantProc(t, behind(l, set), 0, must)
		}
	}
	for _, x := range append([]int{4, 5, 7, 8, 256, 257}, far...) {
		want(t, l, api.Op{Kind: api.OpKeySet, Key: 1, Rights: x}, bad(api.ErrRange))
		want(t, l, api.Op{Kind: api.OpKeySet, Key: x, Rights: 1}, bad(api.ErrNone))
		// That there is no such key is told first.
		want(t, l, api.Op{Kind: api.OpKeySet, Key: x, Rights: x}, bad(api.ErrNone))
		want(t, l, api.Op{Kind: api.OpKeySet, Key: 2, Rights: x}, bad(api.ErrNone))
	}
}

// TestForkIsLikeItsParent holds a child, which has pages, tags, keys and seals,
// against its parent.
func TestForkIsLikeItsParent(t *testing.T) {
	l := behind(some,
		api.Op{Kind: api.OpStore, Addr: 62, Size: 4, Value: -5},
		api.Op{Kind: api.OpSeal, Page: 4, Count: 1},
		api.Op{Kind: api.OpKeySet, Key: 1, Rights: 2},
		api.Op{Kind: api.OpMap, Count: 1, Rights: 3, Tagged: true, Draw: 9},
		api.Op{Kind: api.OpTag, Addr: 18 * 64, Count: 3, Tag: 7},
	)
	_, was := flat.Run(l)
	want(t, l, api.Op{Kind: api.OpFork}, good(1))
	_, procs := flat.Run(behind(l, api.Op{Kind: api.OpFork}))
	if !same(procs[0], was[0]) || !same(procs[1], was[0]) {
		t.Errorf("behind a fork: %+v and %+v; it was %+v", procs[0], procs[1], was[0])
	}
	// A child of a child, too.
	want(t, behind(l, api.Op{Kind: api.OpFork}), api.Op{Kind: api.OpFork, Proc: 1}, good(2))
}

// TestNobodySeesWhatAnotherOneDoes changes a parent, or its child.
func TestNobodySeesWhatAnotherOneDoes(t *testing.T) {
	l := ops{
		{Kind: api.OpMap, Count: 3, Rights: 3, Tagged: true},
		{Kind: api.OpTag, Count: 12, Tag: 2},
		{Kind: api.OpKeyNew},
		{Kind: api.OpFork},
	}
	_, was := flat.Run(l)
	for _, op := range []api.Op{
		{Kind: api.OpMap, Count: 1}, {Kind: api.OpUnmap, Page: 1, Count: 1}, {Kind: api.OpProtect, Count: 2, Rights: 1, Key: 1}, {Kind: api.OpSeal, Count: 3},
		{Kind: api.OpKeyNew}, {Kind: api.OpKeyFree, Key: 1}, {Kind: api.OpKeySet, Key: 1, Rights: 3}, {Kind: api.OpFork}, {Kind: api.OpExit},
		{Kind: api.OpStore, Addr: 62, Size: 4, Value: -1, Tag: 2}, {Kind: api.OpTag, Addr: 64, Count: 8, Tag: 3}, {Kind: api.OpReclaim, Count: 9},
	} {
		for proc := range 2 {
			op.Proc = proc
			answers, procs := wantModel(t, behind(l, op))
			if answers[len(l)].Err != api.OK {
				t.Errorf("%+v: %+v", op, answers[len(l)])
			}
			if !same(procs[1-proc], was[1-proc]) {
				t.Errorf("%+v changes process %d: %+v", op, 1-proc, procs[1-proc])
			}
		}
	}
}

func TestForkTakesTheLeastThatDoesNotLive(t *testing.T) {
	fork := api.Op{Kind: api.OpFork}
	l := ops{fork, fork, fork}
	want(t, nil, fork, good(1))
	want(t, l[:1], fork, good(2))
	want(t, l[:2], fork, good(3))
	for proc := range 4 {
		want(t, l, api.Op{Kind: api.OpFork, Proc: proc}, bad(api.ErrFull))
		gone := behind(l, api.Op{Kind: api.OpExit, Proc: proc})
		want(t, gone, api.Op{Kind: api.OpFork, Proc: (proc + 1) % 4}, good(proc))
		want(t, gone, api.Op{Kind: api.OpFork, Proc: proc}, bad(api.ErrNone))
	}
	// Process 0 comes back as another one's child.
	want(t, behind(l, api.Op{Kind: api.OpExit}, api.Op{Kind: api.OpExit, Proc: 2}), api.Op{Kind: api.OpFork, Proc: 3}, good(0))
}

func TestForkCountsThePagesOfAll(t *testing.T) {
	fork := api.Op{Kind: api.OpFork}
	want(t, ops{{Kind: api.OpMap, Count: 32}}, fork, good(1))
	want(t, ops{{Kind: api.OpMap, Count: 33}}, fork, bad(api.ErrFull))
	want(t, ops{{Kind: api.OpMap, Count: 64}}, fork, bad(api.ErrFull))
	l := ops{{Kind: api.OpMap, Count: 16}, fork, fork}
	want(t, l, fork, good(3))
	l = behind(l, api.Op{Kind: api.OpMap, Proc: 2, Count: 1})
	want(t, l, fork, bad(api.ErrFull))
	want(t, l, api.Op{Kind: api.OpFork, Proc: 2}, bad(api.ErrFull))
	want(t, behind(l, api.Op{Kind: api.OpUnmap, Proc: 1, Page: 3, Count: 1}), fork, good(3))
	want(t, behind(l, api.Op{Kind: api.OpUnmap, Proc: 1, Page: 3, Count: 1}), api.Op{Kind: api.OpFork, Proc: 2}, bad(api.ErrFull))
	// One that has no pages is forked though there is no room for any.
	empty := ops{fork, {Kind: api.OpMap, Count: 64}}
	want(t, empty, api.Op{Kind: api.OpFork, Proc: 1}, good(2))
	want(t, empty, fork, bad(api.ErrFull))
}

func TestExitLeavesNothing(t *testing.T) {
	l := behind(some, api.Op{Kind: api.OpSeal, Page: 4, Count: 1}, api.Op{Kind: api.OpStore, Size: 4, Value: -1})
	gone := behind(l, api.Op{Kind: api.OpExit})
	wantProc(t, gone, 0, api.Proc{})
	for kind := 1; kind <= 13; kind++ {
		want(t, gone, api.Op{Kind: kind, Count: 1, Size: 1}, bad(api.ErrNone))
	}
	// Who takes its number has nothing of it, but what its own parent has.
	again := behind(ops{{Kind: api.OpFork}}, l...)
	again = behind(again, api.Op{Kind: api.OpExit}, api.Op{Kind: api.OpFork, Proc: 1})
	wantProc(t, again, 0, api.Proc{Live: true, Keys: first})
	want(t, again, api.Op{Kind: api.OpMap, Count: 1, Rights: 1}, good(0))
	want(t, behind(again, api.Op{Kind: api.OpMap, Count: 1, Rights: 1}), api.Op{Kind: api.OpLoad, Size: 4}, good(0))
}
