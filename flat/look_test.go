package flat_test

import (
	"math"
	"testing"

	"framewarden/api"
)

// looks are the ops that look at memory, one of each kind.
var looks = ops{{Kind: api.OpLoad, Size: 1}, {Kind: api.OpStore, Size: 1}, {Kind: api.OpFetch, Size: 1}, {Kind: api.OpTag, Count: 1}}

// whole gives process 0 all pages, with these rights and tagged so.
func whole(rights int, tagged bool) ops {
	return ops{{Kind: api.OpMap, Count: 64, Rights: rights, Tagged: tagged}}
}

// mixed gives process 0 pages 0 (rights 3), 1 (rights 1), 2 (rights 3, a key
// that denies reading), 3 (rights 3, a key that denies writing), 4 (rights 5),
// 5 (no rights), 6 (rights 3, tagged), 7 (rights 4, a key that denies both);
// 8 is not there; 9 has rights 3, and is tagged; 10 and more are not there.
var mixed = ops{
	{Kind: api.OpMap, Count: 6, Rights: 3},
	{Kind: api.OpKeyNew}, {Kind: api.OpKeyNew}, {Kind: api.OpKeyNew},
	{Kind: api.OpKeySet, Key: 1, Rights: 1}, {Kind: api.OpKeySet, Key: 2, Rights: 2}, {Kind: api.OpKeySet, Key: 3, Rights: 3},
	{Kind: api.OpProtect, Page: 1, Count: 1, Rights: 1},
	{Kind: api.OpProtect, Page: 2, Count: 1, Rights: 3, Key: 1},
	{Kind: api.OpProtect, Page: 3, Count: 1, Rights: 3, Key: 2},
	{Kind: api.OpProtect, Page: 4, Count: 1, Rights: 5},
	{Kind: api.OpProtect, Page: 5, Count: 1, Rights: 0},
	{Kind: api.OpMap, Count: 1, Rights: 4, Key: 3},
	{Kind: api.OpMap, Count: 1, Rights: 3, Tagged: true},
}

// TestFaults looks at pages of each kind, each way. Pages 6 and 8 are not
// there, 7 is only run, and 9 is tagged.
func TestFaults(t *testing.T) {
	const ok, no, right, key, tag = 0, api.FaultMap, api.FaultRight, api.FaultKey, api.FaultTag
	for page, faults := range [][4]int{
		{ok, ok, right, tag},
		{ok, right, right, right},
		{key, ok, right, tag},
		{ok, key, right, key},
		{ok, right, ok, right},
		{right, right, right, right},
		{no, no, no, no},
		{right, right, ok, right},
		{no, no, no, no},
		{ok, ok, right, ok},
		{no, no, no, no},
	} {
		for i, op := range looks {
			for _, at := range []int{0, 16, 32, 48} {
				op.Addr = 64*page + at
				must := good(0)
				if faults[i] != 0 {
					must = faulty(faults[i], op.Addr)
				}
				want(t, mixed, op, must)
			}
		}
	}
}

// TestWherePagesMeet looks from each page on into the next one, however many
// bytes are on either side.
func TestWherePagesMeet(t *testing.T) {
	for page := range 64 {
		for at := 61; at < 64; at++ {
			for size := 1; size <= 4; size++ {
				for _, op := range looks[:3] {
					op.Addr, op.Size, op.Value = 64*page+at, size, 0x04030201
					wantModel(t, behind(mixed, op, api.Op{Kind: api.OpLoad, Addr: 62, Size: 4}))
				}
			}
		}
	}
	load := api.Op{Kind: api.OpLoad, Addr: 127, Size: 2}
	want(t, mixed, load, faulty(api.FaultKey, 128))
	load.Addr = 126
	want(t, mixed, load, good(0))
	want(t, mixed, api.Op{Kind: api.OpStore, Addr: 61, Size: 4, Value: -1}, faulty(api.FaultRight, 64))
	want(t, mixed, api.Op{Kind: api.OpLoad, Addr: 5*64 + 62, Size: 4}, faulty(api.FaultRight, 5*64+62))
	want(t, mixed, api.Op{Kind: api.OpFetch, Addr: 7*64 + 62, Size: 4}, faulty(api.FaultMap, 8*64))
}

// TestTagsGranuleByGranule gives each granule of two pages its own tag.
func TestTagsGranuleByGranule(t *testing.T) {
	l := ops{{Kind: api.OpMap, Count: 2, Rights: 3, Tagged: true}}
	for g := range 8 {
		l = append(l, api.Op{Kind: api.OpTag, Addr: 16 * g, Count: 1, Tag: g + 1})
	}
	for at := range 128 {
		g := at / 16
		for tag := range 16 {
			must := good(0)
			if tag != g+1 {
				must = faulty(api.FaultTag, at)
			}
			want(t, l, api.Op{Kind: api.OpLoad, Addr: at, Size: 1, Tag: tag}, must)
			want(t, l, api.Op{Kind: api.OpStore, Addr: at, Size: 1, Value: 5, Tag: tag}, must)
		}
		for size := 2; size <= 4 && at+size <= 128; size++ {
			must := good(0)
			if (at+size-1)/16 != g {
				must = faulty(api.FaultTag, 16*g+16)
			}
			want(t, l, api.Op{Kind: api.OpLoad, Addr: at, Size: size, Tag: g + 1}, must)
			// The other granule's tag faults at the beginning.
			want(t, l, api.Op{Kind: api.OpLoad, Addr: at, Size: size, Tag: g + 2}, faulty(api.FaultTag, at))
		}
	}
}

// TestPagesThatAreNotTaggedHaveNoFaultOfTags, and what is run has none either.
func TestPagesThatAreNotTaggedHaveNoFaultOfTags(t *testing.T) {
	for tag := range 16 {
		want(t, whole(3, false), api.Op{Kind: api.OpLoad, Addr: 62, Size: 4, Tag: tag}, good(0))
		want(t, whole(3, false), api.Op{Kind: api.OpStore, Addr: 62, Size: 4, Tag: tag}, good(0))
		want(t, whole(5, true), api.Op{Kind: api.OpFetch, Addr: 62, Size: 4, Tag: tag}, good(0))
		want(t, whole(3, false), api.Op{Kind: api.OpTag, Addr: 16, Count: 1, Tag: tag}, faulty(api.FaultTag, 16))
	}
}

// TestTag sets the tags of each run of granules of three pages.
func TestTag(t *testing.T) {
	l := ops{{Kind: api.OpMap, Count: 3, Rights: 3, Tagged: true}}
	for from := range 12 {
		for to := from + 1; to <= 12; to++ {
			op := api.Op{Kind: api.OpTag, Addr: 16 * from, Count: to - from, Tag: 15}
			want(t, l, op, good(0))
			_, procs := wantModel(t, behind(l, op))
			for g := range 12 {
				tag := procs[0].Pages[g/4].Tags[g%4]
				if inside := from <= g && g < to; (tag == 15) != inside || (tag == 0) == inside {
					t.Fatalf("tag %d of granule %d behind %+v", tag, g, op)
				}
			}
		}
	}
	want(t, whole(3, true), api.Op{Kind: api.OpTag, Count: 256, Tag: 1}, good(0))
	// Tags that are there already do not hinder others.
	want(t, behind(l, api.Op{Kind: api.OpTag, Count: 12, Tag: 3}), api.Op{Kind: api.OpTag, Addr: 32, Count: 6, Tag: 4}, good(0))
}

// TestTagFaultsChangeNothing tags from good pages on into one that faults.
func TestTagFaultsChangeNothing(t *testing.T) {
	l := ops{{Kind: api.OpMap, Count: 3, Rights: 3, Tagged: true}, {Kind: api.OpMap, Count: 1, Rights: 3}, {Kind: api.OpMap, Count: 1, Rights: 1, Tagged: true}}
	want(t, l, api.Op{Kind: api.OpTag, Addr: 16, Count: 12, Tag: 5}, faulty(api.FaultMap, 192))
	want(t, l, api.Op{Kind: api.OpTag, Addr: 4 * 64, Count: 1, Tag: 5}, faulty(api.FaultTag, 256))
	want(t, l, api.Op{Kind: api.OpTag, Addr: 4*64 + 32, Count: 8, Tag: 5}, faulty(api.FaultTag, 4*64+32))
	want(t, l, api.Op{Kind: api.OpTag, Addr: 6*64 + 48, Count: 1, Tag: 5}, faulty(api.FaultRight, 6*64+48))
	l = behind(l, api.Op{Kind: api.OpProtect, Page: 1, Count: 1, Rights: 1})
	want(t, l, api.Op{Kind: api.OpTag, Addr: 0, Count: 12, Tag: 5}, faulty(api.FaultRight, 64))
}

// TestWhatWasStoredIsLoaded stores and loads of every size, at all places of
// two pages.
func TestWhatWasStoredIsLoaded(t *testing.T) {
	base := ops{{Kind: api.OpMap, Count: 2, Rights: 3}, {Kind: api.OpFork}}
	for at := range 128 {
		for size := 1; size <= 4 && at+size <= 128; size++ {
			for _, v := range []int{0x0a0b0c0d, -2, math.MinInt + 0x1f2e3d4c} {
				l := behind(base, api.Op{Kind: api.OpStore, Addr: at, Size: size, Value: v})
				low := v & (1<<(8*size) - 1)
				want(t, l, api.Op{Kind: api.OpLoad, Addr: at, Size: size}, good(low))
				want(t, l, api.Op{Kind: api.OpLoad, Addr: at, Size: 1}, good(low&255))
				want(t, l, api.Op{Kind: api.OpLoad, Addr: at + size - 1, Size: 1}, good(low>>(8*size-8)))
				want(t, l, api.Op{Kind: api.OpLoad, Proc: 1, Addr: at, Size: size}, good(0))
			}
		}
	}
}

// TestFetch runs what was stored.
func TestFetch(t *testing.T) {
	l := ops{
		{Kind: api.OpMap, Count: 2, Rights: 3, Tagged: true},
		{Kind: api.OpStore, Addr: 62, Size: 4, Value: 0x81828384},
		{Kind: api.OpProtect, Count: 2, Rights: 4},
		{Kind: api.OpKeySet, Rights: 3},
	}
	want(t, l, api.Op{Kind: api.OpFetch, Addr: 62, Size: 4}, good(0x81828384))
	want(t, l, api.Op{Kind: api.OpFetch, Addr: 63, Size: 2, Tag: 9}, good(0x8283))
	want(t, l, api.Op{Kind: api.OpLoad, Addr: 62, Size: 4}, faulty(api.FaultRight, 62))
}

// TestAddressesAtTheEdges looks at the last addresses, and behind them.
func TestAddressesAtTheEdges(t *testing.T) {
	for _, op := range looks[:3] {
		for size := 1; size <= 4; size++ {
			for at := 4088; at <= 4100; at++ {
				op.Addr, op.Size = at, size
				must := good(0)
				if at+size > 4096 {
					must = bad(api.ErrRange)
				}
				rights := 3
				if op.Kind == api.OpFetch {
					rights = 5
				}
				want(t, whole(rights, false), op, must)
			}
			for at := -8; at < 0; at++ {
				op.Addr = at
				want(t, whole(3, false), op, bad(api.ErrRange))
			}
		}
	}
}

// TestGranulesAtTheEdges tags at all multiples, and beside them.
func TestGranulesAtTheEdges(t *testing.T) {
	l := whole(3, true)
	for at := 0; at <= 4112; at += 16 {
		left := 256 - at/16
		for _, count := range []int{left - 1, left} {
			must := good(0)
			if count < 1 {
				must = bad(api.ErrRange)
			}
			want(t, l, api.Op{Kind: api.OpTag, Addr: at, Count: count, Tag: 1}, must)
		}
		want(t, l, api.Op{Kind: api.OpTag, Addr: at, Count: left + 1, Tag: 1}, bad(api.ErrRange))
	}
	for at := -17; at < 80; at++ {
		must := good(0)
		if at < 0 || at%16 != 0 {
			must = bad(api.ErrRange)
		}
		want(t, l, api.Op{Kind: api.OpTag, Addr: at, Count: 1}, must)
	}
}

// TestLooksOutOfRange is told of pages that are not there, too: the range
// comes first.
func TestLooksOutOfRange(t *testing.T) {
	for _, l := range []ops{nil, whole(3, true)} {
		for _, op := range looks {
			for _, x := range append([]int{16, 17, 31, 255, 256}, far...) {
				odd := op
				odd.Tag = x
				want(t, l, odd, bad(api.ErrRange))
			}
			for _, x := range append([]int{4096, 4097}, far...) {
				odd := op
				odd.Addr = x
				want(t, l, odd, bad(api.ErrRange))
			}
			for _, x := range append([]int{0, 257, 258, 512}, far...) {
				odd := op
				odd.Size, odd.Count = x, x
				want(t, l, odd, bad(api.ErrRange))
				odd.Addr = 4080
				want(t, l, odd, bad(api.ErrRange))
			}
		}
		for _, op := range looks[:3] {
			for _, x := range []int{5, 6, 7, 8, 16, 64} {
				op.Size = x
				want(t, l, op, bad(api.ErrRange))
			}
		}
	}
	want(t, nil, api.Op{Kind: api.OpLoad, Addr: 4095, Size: 1, Tag: 15}, faulty(api.FaultMap, 4095))
	want(t, nil, api.Op{Kind: api.OpTag, Addr: 4080, Count: 1, Tag: 15}, faulty(api.FaultMap, 4080))
}

// TestMoreRightsNeverFaultMore looks at a page with all rights that there are.
func TestMoreRightsNeverFaultMore(t *testing.T) {
	for rights := range 6 {
		for _, op := range looks {
			l := ops{{Kind: api.OpMap, Count: 1, Rights: rights, Tagged: true}}
			way := map[int]int{api.OpLoad: 1, api.OpStore: 2, api.OpFetch: 4, api.OpTag: 2}[op.Kind]
			must := good(0)
			if rights&way == 0 {
				must = faulty(api.FaultRight, 0)
			}
			want(t, l, op, must)
		}
	}
}
