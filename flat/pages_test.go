package flat_test

import (
	"math"
	"slices"
	"testing"

	"framewarden/api"
)

// some are the ops that give process 0 pages 0 and 1 (rights 3), 3 to 5
// (rights 5), and 7 (rights 1, key 1, tagged).
var some = ops{
	{Kind: api.OpKeyNew},
	{Kind: api.OpMap, Count: 2, Rights: 3},
	{Kind: api.OpMap, Count: 3, Rights: 5},
	{Kind: api.OpMap, Count: 1, Rights: 1, Key: 1, Tagged: true},
}

// behind answers l with more behind it, in a new list.
func behind(l ops, more ...api.Op) ops { return slices.Concat(l, more) }

func TestMap(t *testing.T) {
	l := ops{{Kind: api.OpMap, Count: 2, Rights: 3, Tagged: true, Draw: 7}}
	want(t, nil, l[0], good(7))
	must := api.Region{From: 7, To: 9, Attr: api.Attr{Rights: 3, Tagged: true}}
	wantProc(t, l, 0, api.Proc{Live: true, Regions: []api.Region{must}, Keys: first, Pages: []api.Page{blank(7), blank(8)}})
}

func TestMapLeavesAPageBetween(t *testing.T) {
	l := ops{{Kind: api.OpMap, Count: 2}}
	for i := range 20 {
		op := api.Op{Kind: api.OpMap, Count: 2}
		want(t, l, op, good(3*i+3))
		l = append(l, op)
	}
	// Room is left, but no two pages behind the last one that lies between.
	want(t, l, api.Op{Kind: api.OpMap, Count: 2}, bad(api.ErrFull))
	want(t, l, api.Op{Kind: api.OpMap, Count: 1}, good(63))
}

func TestMapAllPages(t *testing.T) {
	l := ops{{Kind: api.OpMap, Count: 64, Rights: 1}}
	_, procs := wantModel(t, l)
	if len(procs[0].Pages) != 64 {
		t.Errorf("%d pages of 64", len(procs[0].Pages))
	}
	want(t, l, api.Op{Kind: api.OpMap, Count: 1}, bad(api.ErrFull))
	want(t, nil, api.Op{Kind: api.OpMap, Count: 65}, bad(api.ErrRange))
	want(t, nil, api.Op{Kind: api.OpMap, Count: 64, Draw: 5}, good(0))
}

func TestMapOfEachDraw(t *testing.T) {
	for draw := -140; draw <= 140; draw++ {
		want(t, some, api.Op{Kind: api.OpMap, Count: 3, Draw: draw}, good(9+((draw%53)+53)%53))
	}
	for _, draw := range far {
		wantModel(t, behind(some, api.Op{Kind: api.OpMap, Count: 3, Draw: draw}))
	}
}

func TestMapOfCountsThatAreNone(t *testing.T) {
	for _, count := range append([]int{0, -2, 65, 66, 128, 256, 257}, far...) {
		want(t, nil, api.Op{Kind: api.OpMap, Count: count, Rights: 3}, bad(api.ErrRange))
	}
}

func TestMapOfWrongRightsAndKeys(t *testing.T) {
	for rights := range 8 {
		must := good(9)
		if rights >= 6 {
			must = bad(api.ErrRole)
		}
		want(t, some, api.Op{Kind: api.OpMap, Count: 1, Rights: rights}, must)
		want(t, some, api.Op{Kind: api.OpMap, Count: 1, Rights: rights, Key: 1}, must)
	}
	for _, x := range append([]int{8, 9, 256, 257}, far...) {
		want(t, some, api.Op{Kind: api.OpMap, Count: 1, Rights: x}, bad(api.ErrRange))
		want(t, some, api.Op{Kind: api.OpMap, Count: 1, Rights: 1, Key: x}, bad(api.ErrNone))
	}
	for _, k := range []int{2, 3, 4} {
		want(t, some, api.Op{Kind: api.OpMap, Count: 1, Key: k}, bad(api.ErrNone))
	}
}

// TestMapTellsItsErrorsInOrder has more wrong than one thing.
func TestMapTellsItsErrorsInOrder(t *testing.T) {
	want(t, some, api.Op{Kind: api.OpMap, Count: 65, Rights: 8, Key: 9}, bad(api.ErrRange))
	want(t, some, api.Op{Kind: api.OpMap, Count: 0, Rights: 6, Key: 9}, bad(api.ErrRange))
	want(t, some, api.Op{Kind: api.OpMap, Count: 64, Rights: 6, Key: 9}, bad(api.ErrRole))
	want(t, some, api.Op{Kind: api.OpMap, Count: 64, Rights: 8, Key: 9}, bad(api.ErrRange))
	want(t, some, api.Op{Kind: api.OpMap, Count: 64, Rights: 5, Key: 9}, bad(api.ErrNone))
	want(t, some, api.Op{Kind: api.OpMap, Count: 64, Rights: 5}, bad(api.ErrFull))
}

// TestMapCountsThePagesOfAll has processes whose pages are 64, and no more.
func TestMapCountsThePagesOfAll(t *testing.T) {
	l := ops{{Kind: api.OpMap, Count: 20}, {Kind: api.OpFork}, {Kind: api.OpFork}}
	want(t, l, api.Op{Kind: api.OpMap, Count: 5}, bad(api.ErrFull))
	want(t, l, api.Op{Kind: api.OpMap, Proc: 2, Count: 4}, good(21))
	full := behind(l, api.Op{Kind: api.OpMap, Proc: 2, Count: 4})
	for proc := range 3 {
		want(t, full, api.Op{Kind: api.OpMap, Proc: proc, Count: 1}, bad(api.ErrFull))
	}
	want(t, behind(full, api.Op{Kind: api.OpUnmap, Proc: 1, Count: 2}), api.Op{Kind: api.OpMap, Count: 2}, good(21))
	want(t, behind(full, api.Op{Kind: api.OpUnmap, Proc: 1, Count: 2}), api.Op{Kind: api.OpMap, Count: 3}, bad(api.ErrFull))
	want(t, behind(full, api.Op{Kind: api.OpExit, Proc: 1}), api.Op{Kind: api.OpMap, Count: 20}, good(21))
	want(t, behind(full, api.Op{Kind: api.OpExit, Proc: 1}), api.Op{Kind: api.OpMap, Count: 21}, bad(api.ErrFull))
}

// TestNewPagesAreEmpty maps where there was something.
func TestNewPagesAreEmpty(t *testing.T) {
	l := ops{
		{Kind: api.OpMap, Count: 3, Rights: 3, Tagged: true},
		{Kind: api.OpTag, Addr: 0, Count: 12, Tag: 9},
		{Kind: api.OpStore, Addr: 62, Size: 4, Value: -1, Tag: 9},
		{Kind: api.OpUnmap, Page: 0, Count: 3},
		{Kind: api.OpMap, Count: 2, Rights: 1, Tagged: true},
	}
	must := api.Region{From: 0, To: 2, Attr: api.Attr{Rights: 1, Tagged: true}}
	wantProc(t, l, 0, api.Proc{Live: true, Regions: []api.Region{must}, Keys: first, Pages: []api.Page{blank(0), blank(1)}})
	want(t, l, api.Op{Kind: api.OpLoad, Addr: 62, Size: 4}, good(0))
}

func TestUnmap(t *testing.T) {
	_, procs := wantModel(t, behind(some, api.Op{Kind: api.OpUnmap, Page: 4, Count: 1}))
	must := []api.Region{
		{From: 0, To: 2, Attr: api.Attr{Rights: 3}},
		{From: 3, To: 4, Attr: api.Attr{Rights: 5}},
		{From: 5, To: 6, Attr: api.Attr{Rights: 5}},
		{From: 7, To: 8, Attr: api.Attr{Rights: 1, Key: 1, Tagged: true}},
	}
	if !slices.Equal(procs[0].Regions, must) {
		t.Errorf("without page 4: %v", procs[0].Regions)
	}
	// Pages that are not there do not hinder.
	for _, op := range []api.Op{{Page: 2, Count: 1}, {Page: 8, Count: 56}, {Page: 1, Count: 3}, {Page: 0, Count: 64}, {Page: 63, Count: 1}} {
		op.Kind = api.OpUnmap
		want(t, some, op, good(0))
	}
	wantProc(t, ops{some[1], {Kind: api.OpUnmap, Count: 64}}, 0, api.Proc{Live: true, Keys: first})
}

// TestUnmapLeavesTheRestAsItIs looks at what is in the pages beside.
func TestUnmapLeavesTheRestAsItIs(t *testing.T) {
	l := ops{
		{Kind: api.OpMap, Count: 3, Rights: 3},
		{Kind: api.OpStore, Addr: 60, Size: 4, Value: 0x01020304},
		{Kind: api.OpStore, Addr: 128, Size: 4, Value: 0x05060708},
		{Kind: api.OpUnmap, Page: 1, Count: 1},
	}
	want(t, l, api.Op{Kind: api.OpLoad, Addr: 60, Size: 4}, good(0x01020304))
	want(t, l, api.Op{Kind: api.OpLoad, Addr: 128, Size: 4}, good(0x05060708))
	want(t, l, api.Op{Kind: api.OpLoad, Addr: 64, Size: 1}, faulty(api.FaultMap, 64))
}

func TestProtect(t *testing.T) {
	_, procs := wantModel(t, behind(some, api.Op{Kind: api.OpProtect, Page: 4, Count: 2, Rights: 1, Key: 1, Tagged: true}))
	must := []api.Region{
		{From: 0, To: 2, Attr: api.Attr{Rights: 3}},
		{From: 3, To: 4, Attr: api.Attr{Rights: 5}},
		// Whether pages are Tagged does not change.
		{From: 4, To: 6, Attr: api.Attr{Rights: 1, Key: 1}},
		{From: 7, To: 8, Attr: api.Attr{Rights: 1, Key: 1, Tagged: true}},
	}
	if !slices.Equal(procs[0].Regions, must) {
		t.Errorf("with pages 4 and 5 otherwise: %v", procs[0].Regions)
	}
	// What is as it was before is one region again.
	_, procs = wantModel(t, behind(some, api.Op{Kind: api.OpProtect, Page: 4, Count: 2, Rights: 1}, api.Op{Kind: api.OpProtect, Page: 4, Count: 2, Rights: 5}))
	if _, was := wantModel(t, some); !same(procs[0], was[0]) {
		t.Errorf("there and back: %v", procs[0].Regions)
	}
	want(t, some, api.Op{Kind: api.OpProtect, Page: 7, Count: 1, Rights: 0}, good(0))
}

func TestProtectOfWrongRightsAndKeys(t *testing.T) {
	for rights := range 8 {
		must := good(0)
		if rights >= 6 {
			must = bad(api.ErrRole)
		}
		want(t, some, api.Op{Kind: api.OpProtect, Page: 1, Count: 1, Rights: rights, Key: 1}, must)
	}
	for _, x := range append([]int{8, 9, 256, 257}, far...) {
		want(t, some, api.Op{Kind: api.OpProtect, Page: 1, Count: 1, Rights: x}, bad(api.ErrRange))
		want(t, some, api.Op{Kind: api.OpProtect, Page: 1, Count: 1, Key: x}, bad(api.ErrNone))
	}
	for _, k := range []int{2, 3, 4} {
		want(t, some, api.Op{Kind: api.OpProtect, Page: 1, Count: 1, Key: k}, bad(api.ErrNone))
	}
}

func TestSeal(t *testing.T) {
	l := behind(some, api.Op{Kind: api.OpSeal, Page: 4, Count: 1})
	_, procs := wantModel(t, l)
	must := []api.Region{
		{From: 0, To: 2, Attr: api.Attr{Rights: 3}},
		{From: 3, To: 4, Attr: api.Attr{Rights: 5}},
		{From: 4, To: 5, Attr: api.Attr{Rights: 5, Sealed: true}},
		{From: 5, To: 6, Attr: api.Attr{Rights: 5}},
		{From: 7, To: 8, Attr: api.Attr{Rights: 1, Key: 1, Tagged: true}},
	}
	if !slices.Equal(procs[0].Regions, must) {
		t.Errorf("with page 4 sealed: %v", procs[0].Regions)
	}
	// Sealed twice is sealed.
	want(t, l, api.Op{Kind: api.OpSeal, Page: 3, Count: 3}, good(0))
	want(t, l, api.Op{Kind: api.OpSeal, Page: 4, Count: 1}, good(0))
}

// TestWhatIsSealedStays tries to change spans on all sides of a sealed page.
func TestWhatIsSealedStays(t *testing.T) {
	l := behind(some, api.Op{Kind: api.OpSeal, Page: 4, Count: 1})
	for from := 3; from < 6; from++ {
		for to := from + 1; to <= 6; to++ {
			must := good(0)
			if from <= 4 && 4 < to {
				must = bad(api.ErrHeld)
			}
			want(t, l, api.Op{Kind: api.OpUnmap, Page: from, Count: to - from}, must)
			want(t, l, api.Op{Kind: api.OpProtect, Page: from, Count: to - from, Rights: 1}, must)
		}
	}
	want(t, l, api.Op{Kind: api.OpUnmap, Page: 0, Count: 64}, bad(api.ErrHeld))
	want(t, l, api.Op{Kind: api.OpUnmap, Page: 4, Count: 60}, bad(api.ErrHeld))
	// Nor may it be given what it has.
	want(t, l, api.Op{Kind: api.OpProtect, Page: 4, Count: 1, Rights: 5}, bad(api.ErrHeld))
	want(t, behind(l, api.Op{Kind: api.OpFork}), api.Op{Kind: api.OpUnmap, Proc: 1, Page: 4, Count: 1}, bad(api.ErrHeld))
	// What is in it may change, and its process may leave.
	sealed := ops{some[0], some[1], {Kind: api.OpSeal, Count: 2}}
	want(t, behind(sealed, api.Op{Kind: api.OpStore, Addr: 3, Size: 1, Value: 7}), api.Op{Kind: api.OpLoad, Addr: 3, Size: 1}, good(7))
	want(t, sealed, api.Op{Kind: api.OpExit}, good(0))
}

// TestPagesThatAreNotThere asks of each span whether all of it is.
func TestPagesThatAreNotThere(t *testing.T) {
	there := func(n int) bool { return n != 2 && n != 6 && n < 8 }
	for from := range 64 {
		for to := from + 1; to <= 64; to++ {
			must := good(0)
			for n := from; n < to; n++ {
				if !there(n) {
					must = bad(api.ErrForm)
				}
			}
			want(t, some, api.Op{Kind: api.OpProtect, Page: from, Count: to - from, Rights: 1}, must)
			want(t, some, api.Op{Kind: api.OpSeal, Page: from, Count: to - from}, must)
		}
	}
}

// TestSpansThatAreNone asks at the edges, and far off.
func TestSpansThatAreNone(t *testing.T) {
	for kind := api.OpUnmap; kind <= api.OpSeal; kind++ {
		for _, x := range append([]int{64, 65, 66, 128, 256, 257}, far...) {
			for _, y := range []int{0, 1, 64, x} {
				want(t, some, api.Op{Kind: kind, Page: x, Count: y}, bad(api.ErrRange))
				want(t, some, api.Op{Kind: kind, Page: x, Count: -x}, bad(api.ErrRange))
			}
		}
		for _, x := range append([]int{0, 65, 66, 128, 256, 257}, far...) {
			for _, page := range []int{0, 1, 3, 63} {
				want(t, some, api.Op{Kind: kind, Page: page, Count: x}, bad(api.ErrRange))
				want(t, some, api.Op{Kind: kind, Page: page, Count: x - page}, bad(api.ErrRange))
			}
		}
		for page := 1; page < 64; page++ {
			want(t, some, api.Op{Kind: kind, Page: page, Count: 65 - page}, bad(api.ErrRange))
		}
		want(t, some, api.Op{Kind: kind, Page: math.MaxInt, Count: math.MaxInt}, bad(api.ErrRange))
		want(t, some, api.Op{Kind: kind, Page: -1, Count: 2}, bad(api.ErrRange))
	}
	whole := ops{{Kind: api.OpMap, Count: 64}}
	for page := range 64 {
		for kind := api.OpUnmap; kind <= api.OpSeal; kind++ {
			want(t, whole, api.Op{Kind: kind, Page: page, Count: 64 - page}, good(0))
		}
	}
}

// TestSpansTellTheirErrorsInOrder has more wrong than one thing.
func TestSpansTellTheirErrorsInOrder(t *testing.T) {
	l := behind(some, api.Op{Kind: api.OpSeal, Page: 4, Count: 1})
	want(t, l, api.Op{Kind: api.OpProtect, Page: 4, Count: 61, Rights: 6, Key: 9}, bad(api.ErrRange))
	want(t, l, api.Op{Kind: api.OpProtect, Page: 4, Count: 0, Rights: 6, Key: 9}, bad(api.ErrRange))
	want(t, l, api.Op{Kind: api.OpProtect, Page: 4, Count: 60, Rights: 6, Key: 9}, bad(api.ErrRole))
	want(t, l, api.Op{Kind: api.OpProtect, Page: 4, Count: 60, Rights: 9, Key: 9}, bad(api.ErrRange))
	want(t, l, api.Op{Kind: api.OpProtect, Page: 4, Count: 60, Rights: 5, Key: 9}, bad(api.ErrNone))
	want(t, l, api.Op{Kind: api.OpProtect, Page: 4, Count: 60, Rights: 5, Key: 1}, bad(api.ErrForm))
	want(t, l, api.Op{Kind: api.OpProtect, Page: 4, Count: 2, Rights: 5, Key: 1}, bad(api.ErrHeld))
	want(t, l, api.Op{Kind: api.OpUnmap, Page: 4, Count: 61}, bad(api.ErrRange))
	want(t, l, api.Op{Kind: api.OpSeal, Page: 4, Count: 61}, bad(api.ErrRange))
	want(t, l, api.Op{Kind: api.OpSeal, Page: 4, Count: 60}, bad(api.ErrForm))
}
