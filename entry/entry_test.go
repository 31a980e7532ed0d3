package entry_test

import (
	"math"
	"testing"

	"framewarden/api"
	"framewarden/entry"
)

// far are numbers that are no kinds, no frames and no slots; some would be,
// were they cut to fewer bits or multiplied by 256.
var far = []int{math.MinInt, math.MinInt + 1, math.MinInt + 256, math.MinInt32, -1 << 56, -1 << 55, -65536, -257, -256, -255, -64, -2, -1, 64, 65, 255, 256, 257, 258, 1 << 16, 1 << 24, 1 << 31, 1 << 32, 1<<32 + 1, 1 << 55, 1 << 56, 1<<56 + 1, 1<<56 + 5, 1 << 60, 1 << 62, math.MaxInt - 255, math.MaxInt - 1, math.MaxInt}

// all answers every entry that has a number, by that number.
func all() map[int]api.Entry {
	out := map[int]api.Entry{0: {Kind: api.EntryNone}}
	for n := range 64 {
		out[256*n+1] = api.Entry{Kind: api.EntryHere, N: n}
		out[256*n+2] = api.Entry{Kind: api.EntryOut, N: n}
	}
	return out
}

func wantPack(t *testing.T, kind, n, want int, wrong api.Errno) {
	t.Helper()
	if v, e := entry.Pack(api.Entry{Kind: kind, N: n}); v != want || e != wrong {
		t.Errorf("Pack of kind %d, N %d: %d, %d; want %d, %d", kind, n, v, e, want, wrong)
	}
}

func wantUnpack(t *testing.T, v int, want api.Entry, wrong api.Errno) {
	t.Helper()
	if x, e := entry.Unpack(v); x != want || e != wrong {
		t.Errorf("Unpack of %d: %v, %d; want %v, %d", v, x, e, want, wrong)
	}
}

// wantOf holds Unpack of v against the list of all entries.
func wantOf(t *testing.T, list map[int]api.Entry, v int) {
	t.Helper()
	if x, ok := list[v]; ok {
		wantUnpack(t, v, x, api.OK)
		return
	}
	wantUnpack(t, v, api.Entry{}, api.ErrForm)
}

func TestTheDocumentsExample(t *testing.T) {
	wantPack(t, api.EntryOut, 5, 1282, api.OK)
	wantUnpack(t, 1282, api.Entry{Kind: api.EntryOut, N: 5}, api.OK)
}

func TestPackOfAllEntries(t *testing.T) {
	list := all()
	if len(list) != 1+api.Frames+api.Slots {
		t.Fatalf("there are %d entries", len(list))
	}
	for v, x := range list {
		wantPack(t, x.Kind, x.N, v, api.OK)
		wantUnpack(t, v, x, api.OK)
	}
}

func TestPackAtTheEdges(t *testing.T) {
	wantPack(t, api.EntryNone, -1, 0, api.ErrRange)
	wantPack(t, api.EntryNone, 0, 0, api.OK)
	wantPack(t, api.EntryNone, 1, 0, api.ErrRange)
	wantPack(t, api.EntryHere, -1, 0, api.ErrRange)
	wantPack(t, api.EntryHere, 0, 1, api.OK)
	wantPack(t, api.EntryHere, api.Frames-1, 16129, api.OK)
	wantPack(t, api.EntryHere, api.Frames, 0, api.ErrRange)
	wantPack(t, api.EntryOut, -1, 0, api.ErrRange)
	wantPack(t, api.EntryOut, 0, 2, api.OK)
	wantPack(t, api.EntryOut, api.Slots-1, 16130, api.OK)
	wantPack(t, api.EntryOut, api.Slots, 0, api.ErrRange)
}

func TestPackOfNone(t *testing.T) {
	for n := 1; n < 300; n++ {
		wantPack(t, api.EntryNone, n, 0, api.ErrRange)
	}
}

func TestPackOfNumbersFarOff(t *testing.T) {
	for kind := api.EntryNone; kind <= api.EntryOut; kind++ {
		for _, n := range far {
			wantPack(t, kind, n, 0, api.ErrRange)
		}
	}
}

func TestPackOfNoSuchKind(t *testing.T) {
	for _, kind := range append([]int{3, 4, 63}, far...) {
		for n := range 64 {
			wantPack(t, kind, n, 0, api.ErrKind)
		}
		// Of two errors that fit the kind's is told.
		for _, n := range far {
			wantPack(t, kind, n, 0, api.ErrKind)
		}
	}
}

func TestUnpackOfAllNumbersUpToTheLastAndBeyond(t *testing.T) {
	list := all()
	for v := -1 << 16; v <= 1<<18; v++ {
		wantOf(t, list, v)
	}
}

func TestUnpackAtTheEdges(t *testing.T) {
	wantUnpack(t, -1, api.Entry{}, api.ErrForm)
	wantUnpack(t, 0, api.Entry{}, api.OK)
	wantUnpack(t, 1, api.Entry{Kind: api.EntryHere}, api.OK)
	wantUnpack(t, 2, api.Entry{Kind: api.EntryOut}, api.OK)
	wantUnpack(t, 3, api.Entry{}, api.ErrForm)
	wantUnpack(t, 256, api.Entry{}, api.ErrForm)
	wantUnpack(t, 16129, api.Entry{Kind: api.EntryHere, N: 63}, api.OK)
	wantUnpack(t, 16130, api.Entry{Kind: api.EntryOut, N: 63}, api.OK)
	wantUnpack(t, 16385, api.Entry{}, api.ErrForm)
	wantUnpack(t, 16386, api.Entry{}, api.ErrForm)
}

func TestUnpackOfNumbersFarOff(t *testing.T) {
	list := all()
	for _, v := range far {
		wantOf(t, list, v)
	}
	// One bit more, wherever above, or the sign, and it is no entry.
	for v := range list {
		for bit := 14; bit < 64; bit++ {
			wantUnpack(t, v|1<<bit, api.Entry{}, api.ErrForm)
		}
		if v != 0 {
			wantUnpack(t, -v, api.Entry{}, api.ErrForm)
		}
	}
}

func FuzzUnpack(f *testing.F) {
	for _, v := range far {
		f.Add(v)
	}
	list := all()
	f.Fuzz(func(t *testing.T, v int) {
		wantOf(t, list, v)
	})
}

func FuzzPack(f *testing.F) {
	f.Add(2, 5)
	f.Add(0, 1)
	f.Add(3, -1)
	f.Fuzz(func(t *testing.T, kind, n int) {
		v, e := entry.Pack(api.Entry{Kind: kind, N: n})
		switch {
		case kind < 0 || kind > 2:
			wantPack(t, kind, n, 0, api.ErrKind)
		case n < 0 || n > 63 || kind == 0 && n > 0:
			wantPack(t, kind, n, 0, api.ErrRange)
		case e != api.OK || v != kind+256*n:
			t.Errorf("Pack of kind %d, N %d: %d, %d", kind, n, v, e)
		default:
			wantUnpack(t, v, api.Entry{Kind: kind, N: n}, api.OK)
		}
	})
}
