package table_test

import (
	"bytes"
	"math"
	"slices"
	"testing"

	"framewarden/api"
	"framewarden/ram"
	"framewarden/table"
)

const all = api.Frames * api.PageSize

// far are numbers that are neither pages nor frames; some would be, were
// they cut to fewer bits, multiplied by 64 or divided by 8.
var far = []int{math.MinInt, math.MinInt + 1, math.MinInt32, -1 << 58, -65, -64, -8, -7, -2, -1, 64, 65, 71, 72, 128, 4096, 1 << 31, 1 << 32, 1<<32 + 2, 1 << 56, 1 << 58, 1<<58 + 1, 1 << 60, 1 << 62, math.MaxInt - 63, math.MaxInt - 1, math.MaxInt}

func here(n int) api.Entry { return api.Entry{Kind: api.EntryHere, N: n} }
func out(n int) api.Entry  { return api.Entry{Kind: api.EntryOut, N: n} }

// entries answers every entry, by its number.
func entries() map[int]api.Entry {
	list := map[int]api.Entry{0: {}}
	for n := range 64 {
		list[256*n+1] = here(n)
		list[256*n+2] = out(n)
	}
	return list
}

// counting answers n bytes that are 1 to 251, over and over: no number of a
// table in them is an entry.
func counting(n int) []byte {
	l := make([]byte, n)
	for i := range l {
		l[i] = byte(i%251 + 1)
	}
	return l
}

// with answers a copy of r in which number k of the table in a frame is v.
func with(r []byte, frame, k, v int) []byte {
	l := slices.Clone(r)
	for i := range 4 {
		l[64*frame+4*k+i] = byte(v >> (8 * i))
	}
	return l
}

// asked answers number k of the table in a frame; false, if r lacks a byte.
func asked(r []byte, frame, k int) (int, bool) {
	v := 0
	for i := 3; i >= 0; i-- {
		at := 64*frame + 4*k + i
		if at >= len(r) {
			return 0, false
		}
		v = 256*v + int(r[at])
	}
	return v, true
}

var list = entries()

func modelLeaf(r []byte, root, page int) (int, api.Errno) {
	if page < 0 || page > 63 || root < 0 || root > 63 {
		return 0, api.ErrRange
	}
	v, ok := asked(r, root, page/8)
	if !ok {
		return 0, api.ErrRange
	}
	x, ok := list[v]
	if !ok || x.Kind == api.EntryOut {
		return 0, api.ErrForm
	}
	if v == 0 {
		return 0, api.ErrNone
	}
	return x.N, api.OK
}

func modelGet(r []byte, root, page int) (api.Entry, api.Errno) {
	leaf, e := modelLeaf(r, root, page)
	if e == api.ErrNone {
		return api.Entry{}, api.OK
	}
	if e != api.OK {
		return api.Entry{}, e
	}
	v, ok := asked(r, leaf, page%8)
	if !ok {
		return api.Entry{}, api.ErrRange
	}
	x, ok := list[v]
	if !ok {
		return api.Entry{}, api.ErrForm
	}
	return x, api.OK
}

func modelPut(r []byte, root, page int, x api.Entry) ([]byte, api.Errno) {
	leaf, e := modelLeaf(r, root, page)
	if e != api.OK {
		return nil, e
	}
	if x.Kind < 0 || x.Kind > 2 {
		return nil, api.ErrKind
	}
	if x.N < 0 || x.N > 63 || x.Kind == api.EntryNone && x.N > 0 {
		return nil, api.ErrRange
	}
	if _, ok := asked(r, leaf, page%8); !ok {
		return nil, api.ErrRange
	}
	return with(r, leaf, page%8, x.Kind+256*x.N), api.OK
}

func modelLink(r []byte, root, page, leaf int) ([]byte, api.Errno) {
	if leaf == root {
		return nil, api.ErrHeld
	}
	if page < 0 || page > 63 || root < 0 || root > 63 || leaf < 0 || leaf > 63 {
		return nil, api.ErrRange
	}
	_, a := asked(r, root, page/8)
	_, b := asked(r, leaf, 7)
	if !a || !b {
		return nil, api.ErrRange
	}
	l := with(r, root, page/8, 256*leaf+1)
	if _, whole := asked(r, leaf, 15); !whole {
		return l, api.OK
	}
	for i := range l {
		if i/64 == leaf {
			l[i] = 0
		}
	}
	return l, api.OK
}

func wantLeaf(t *testing.T, r []byte, root, page, want int, wrong api.Errno) {
	t.Helper()
	if n, e := table.Leaf(r, root, page); n != want || e != wrong {
		t.Errorf("Leaf of %d bytes, root %d, page %d: %d, %d; want %d, %d", len(r), root, page, n, e, want, wrong)
	}
}

func wantGet(t *testing.T, r []byte, root, page int, want api.Entry, wrong api.Errno) {
	t.Helper()
	if x, e := table.Get(r, root, page); x != want || e != wrong {
		t.Errorf("Get of %d bytes, root %d, page %d: %v, %d; want %v, %d", len(r), root, page, x, e, want, wrong)
	}
}

func wantPut(t *testing.T, r []byte, root, page int, x api.Entry, want []byte, wrong api.Errno) {
	t.Helper()
	if l, e := table.Put(r, root, page, x); !bytes.Equal(l, want) || e != wrong {
		t.Errorf("Put in %d bytes, root %d, page %d, %v: %d bytes, %d; want %d, %d, or others", len(r), root, page, x, len(l), e, len(want), wrong)
	}
}

func wantLink(t *testing.T, r []byte, root, page, leaf int, want []byte, wrong api.Errno) {
	t.Helper()
	if l, e := table.Link(r, root, page, leaf); !bytes.Equal(l, want) || e != wrong {
		t.Errorf("Link in %d bytes, root %d, page %d, leaf %d: %d bytes, %d; want %d, %d, or others", len(r), root, page, leaf, len(l), e, len(want), wrong)
	}
}

// wantModel holds all four calls against their models.
func wantModel(t *testing.T, r []byte, root, page, leaf int, x api.Entry) {
	t.Helper()
	n, e := modelLeaf(r, root, page)
	wantLeaf(t, r, root, page, n, e)
	y, e := modelGet(r, root, page)
	wantGet(t, r, root, page, y, e)
	l, e := modelPut(r, root, page, x)
	wantPut(t, r, root, page, x, l, e)
	l, e = modelLink(r, root, page, leaf)
	wantLink(t, r, root, page, leaf, l, e)
}

func must(t *testing.T, r []byte, e api.Errno) []byte {
	t.Helper()
	if e != api.OK {
		t.Fatalf("an error that should not be: %d", e)
	}
	return r
}

func TestTheDocumentsExample(t *testing.T) {
	r, e := table.Link(ram.New(), 2, 13, 3)
	r = must(t, r, e)
	r, e = table.Put(r, 2, 13, here(9))
	r = must(t, r, e)
	// Number 1 of frame 2 is frame 3; number 5 of frame 3 is frame 9.
	want := ram.New()
	want[2*64+1*4], want[2*64+1*4+1] = 1, 3
	want[3*64+5*4], want[3*64+5*4+1] = 1, 9
	if !bytes.Equal(r, want) {
		t.Error("the bytes of frames 2 and 3, or others, are not as they must be")
	}
	wantLeaf(t, r, 2, 13, 3, api.OK)
	wantGet(t, r, 2, 13, here(9), api.OK)
}

func TestLeafOfEveryNumberOfTheRoot(t *testing.T) {
	for v := range 1 << 15 {
		r := with(ram.New(), 2, 1, v)
		x, ok := list[v]
		switch {
		case !ok || x.Kind == api.EntryOut:
			wantLeaf(t, r, 2, 13, 0, api.ErrForm)
			wantGet(t, r, 2, 13, api.Entry{}, api.ErrForm)
			wantPut(t, r, 2, 13, here(1), nil, api.ErrForm)
		case x.Kind == api.EntryNone:
			wantLeaf(t, r, 2, 13, 0, api.ErrNone)
			wantGet(t, r, 2, 13, api.Entry{}, api.OK)
			wantPut(t, r, 2, 13, here(1), nil, api.ErrNone)
		default:
			wantLeaf(t, r, 2, 13, x.N, api.OK)
		}
	}
}

func TestAllFourBytesOfANumberCount(t *testing.T) {
	for bit := 14; bit < 32; bit++ {
		v := 3<<8 | 1 | 1<<bit
		wantLeaf(t, with(ram.New(), 2, 1, v), 2, 13, 0, api.ErrForm)
		wantLeaf(t, with(ram.New(), 2, 1, 1<<bit), 2, 13, 0, api.ErrForm)
		r := with(ram.New(), 2, 1, 3<<8|1)
		wantGet(t, with(r, 3, 5, v), 2, 13, api.Entry{}, api.ErrForm)
		wantGet(t, with(r, 3, 5, 1<<bit), 2, 13, api.Entry{}, api.ErrForm)
	}
}

func TestGetOfEveryNumberOfALeaf(t *testing.T) {
	r := with(ram.New(), 2, 1, 3<<8|1)
	for v := range 1 << 15 {
		s := with(r, 3, 5, v)
		if x, ok := list[v]; ok {
			wantGet(t, s, 2, 13, x, api.OK)
		} else {
			wantGet(t, s, 2, 13, api.Entry{}, api.ErrForm)
		}
	}
}

func TestPutOfEveryEntry(t *testing.T) {
	r := with(counting(all), 2, 1, 3<<8|1)
	for v, x := range list {
		wantPut(t, r, 2, 13, x, with(r, 3, 5, v), api.OK)
		s, e := table.Put(r, 2, 13, x)
		wantGet(t, must(t, s, e), 2, 13, x, api.OK)
	}
}

func TestEveryPageHasANumberOfItsOwn(t *testing.T) {
	r, e := ram.New(), api.OK
	for k := range 8 {
		r, e = table.Link(r, 63, 8*k+k, 10+k)
		r = must(t, r, e)
	}
	want := func(page int) api.Entry { return out(63 - page) }
	for page := range 64 {
		r, e = table.Put(r, 63, page, want(page))
		r = must(t, r, e)
	}
	for page := range 64 {
		wantLeaf(t, r, 63, page, 10+page/8, api.OK)
		wantGet(t, r, 63, page, want(page), api.OK)
	}
}

func TestEveryFrameMayBeRootOrLeaf(t *testing.T) {
	r := counting(all)
	for root := range 64 {
		for leaf := range 64 {
			want, e := modelLink(r, root, 13, leaf)
			wantLink(t, r, root, 13, leaf, want, e)
			if root == leaf {
				continue
			}
			wantLeaf(t, want, root, 13, leaf, api.OK)
			for page := 8; page < 16; page++ {
				wantGet(t, want, root, page, api.Entry{}, api.OK)
			}
		}
	}
}

func TestPagesThatAreNone(t *testing.T) {
	r := with(ram.New(), 2, 0, 3<<8|1)
	r = with(r, 2, 7, 4<<8|1)
	wantLeaf(t, r, 2, 0, 3, api.OK)
	wantLeaf(t, r, 2, 63, 4, api.OK)
	for _, page := range far {
		wantLeaf(t, r, 2, page, 0, api.ErrRange)
		wantGet(t, r, 2, page, api.Entry{}, api.ErrRange)
		wantPut(t, r, 2, page, here(1), nil, api.ErrRange)
		wantLink(t, r, 2, page, 5, nil, api.ErrRange)
	}
}

func TestFramesThatAreNone(t *testing.T) {
	// No frame but those below 64, even if r has bytes for it.
	long := make([]byte, 3*all)
	for _, n := range far {
		for _, page := range []int{0, 13, 63} {
			wantLeaf(t, long, n, page, 0, api.ErrRange)
			wantGet(t, long, n, page, api.Entry{}, api.ErrRange)
			wantPut(t, long, n, page, here(1), nil, api.ErrRange)
			wantLink(t, long, n, page, 5, nil, api.ErrRange)
			wantLink(t, long, 5, page, n, nil, api.ErrRange)
		}
	}
}

func TestLinkOfTheRootToItselfIsHeldWhateverElseIsWrong(t *testing.T) {
	for _, n := range append([]int{0, 2, 63}, far...) {
		for _, page := range append([]int{0, 13, 63}, far...) {
			wantLink(t, ram.New(), n, page, n, nil, api.ErrHeld)
			wantLink(t, nil, n, page, n, nil, api.ErrHeld)
		}
	}
}

func TestWhichErrorOfPutIsTold(t *testing.T) {
	none := ram.New()
	form := with(none, 2, 1, 2)
	good := with(none, 2, 1, 3<<8|1)
	short := good[:3*64+5*4+3]
	for _, x := range []api.Entry{{Kind: 3}, {Kind: -1, N: -1}, {Kind: math.MaxInt, N: 64}, {Kind: 257}} {
		wantPut(t, none, 2, 64, x, nil, api.ErrRange)
		wantPut(t, none, 64, 13, x, nil, api.ErrRange)
		wantPut(t, none, 2, 13, x, nil, api.ErrNone)
		wantPut(t, form, 2, 13, x, nil, api.ErrForm)
		wantPut(t, good, 2, 13, x, nil, api.ErrKind)
		wantPut(t, short, 2, 13, x, nil, api.ErrKind)
	}
	for _, x := range []api.Entry{{N: 1}, {N: -1}, here(-1), here(64), out(-1), out(64), here(math.MaxInt), out(math.MinInt)} {
		wantPut(t, none, 2, 13, x, nil, api.ErrNone)
		wantPut(t, form, 2, 13, x, nil, api.ErrForm)
		wantPut(t, good, 2, 13, x, nil, api.ErrRange)
	}
	wantPut(t, short, 2, 13, here(1), nil, api.ErrRange)
}

func TestListsThatEndSomewhere(t *testing.T) {
	low := with(with(counting(6*64), 2, 1, 3<<8|1), 3, 5, 9<<8|1)
	high := with(with(counting(6*64), 3, 1, 2<<8|1), 2, 5, 9<<8|1)
	for size := range 6*64 + 1 {
		for _, page := range []int{8, 13, 15} {
			wantModel(t, low[:size:size], 2, page, 3, here(7))
			wantModel(t, high[:size:size], 3, page, 2, here(7))
		}
		wantModel(t, low[:size:size], 5, 63, 4, here(7))
		wantModel(t, low[:size:size], 0, 0, 5, here(7))
	}
}

func TestLinkNeedsTheTableOfTheLeafAndClearsOnlyAWholeFrame(t *testing.T) {
	r := counting(all)
	wantLink(t, r[:3*64+31], 2, 13, 3, nil, api.ErrRange)
	for size := 3*64 + 32; size < 4*64; size++ {
		wantLink(t, r[:size], 2, 13, 3, with(r[:size], 2, 1, 3<<8|1), api.OK)
	}
	for size := 4 * 64; size <= 5*64; size++ {
		want := with(r[:size], 2, 1, 3<<8|1)
		clear(want[3*64 : 4*64])
		wantLink(t, r[:size], 2, 13, 3, want, api.OK)
	}
}

func TestLinkOfAPageKeepsTheNumbersOfALeafThatIsNotWhole(t *testing.T) {
	r := with(counting(4*64-1), 3, 5, 9<<8|1)
	l, e := table.Link(r, 2, 13, 3)
	wantLeaf(t, must(t, l, e), 2, 13, 3, api.OK)
	wantGet(t, l, 2, 13, here(9), api.OK)
}

func TestLinkSeesNoWholeFrameInSpareRoom(t *testing.T) {
	r := slices.Repeat([]byte{255}, 128)
	before := slices.Clone(r)
	wantLink(t, r[:96], 0, 0, 1, with(before[:96], 0, 0, 1<<8|1), api.OK)
	if !bytes.Equal(r, before) {
		t.Error("what was handed in, or the room behind it, was changed")
	}
}

func TestLinkNeedsOnlyOneNumberOfTheRoot(t *testing.T) {
	r := counting(all)
	wantLink(t, r[:3*64+7], 3, 13, 2, nil, api.ErrRange)
	want := with(r[:3*64+8], 3, 1, 2<<8|1)
	clear(want[2*64 : 3*64])
	wantLink(t, r[:3*64+8], 3, 13, 2, want, api.OK)
}

func TestLinkTakesThePlaceOfAnyNumber(t *testing.T) {
	for _, v := range []int{0, 1, 2, 3, 4<<8 | 1, 5<<8 | 2, -1} {
		r := with(ram.New(), 2, 1, v)
		wantLink(t, r, 2, 13, 3, with(r, 2, 1, 3<<8|1), api.OK)
	}
}

func TestLinkAgainEmptiesTheLeaf(t *testing.T) {
	r, e := table.Link(ram.New(), 2, 13, 3)
	r, e = table.Put(must(t, r, e), 2, 13, here(9))
	r, e = table.Link(must(t, r, e), 2, 8, 3)
	wantGet(t, must(t, r, e), 2, 13, api.Entry{}, api.OK)
}

func TestATableThatMeansItself(t *testing.T) {
	// Page 9 is number 1 of the leaf that number 1 means: that number.
	r := with(ram.New(), 2, 1, 2<<8|1)
	wantLeaf(t, r, 2, 9, 2, api.OK)
	wantGet(t, r, 2, 9, here(2), api.OK)
	wantPut(t, r, 2, 9, out(5), with(r, 2, 1, 1282), api.OK)
	wantPut(t, r, 2, 13, out(5), with(r, 2, 5, 1282), api.OK)
}

func TestNilAndEmptyHaveNoBytes(t *testing.T) {
	for _, r := range [][]byte{nil, {}, make([]byte, 0, all)} {
		for _, page := range []int{-1, 0, 63, 64} {
			wantLeaf(t, r, 0, page, 0, api.ErrRange)
			wantGet(t, r, 0, page, api.Entry{}, api.ErrRange)
			wantPut(t, r, 0, page, api.Entry{}, nil, api.ErrRange)
			wantLink(t, r, 0, page, 1, nil, api.ErrRange)
			wantLink(t, r, 1, page, 0, nil, api.ErrRange)
		}
	}
}

func TestBytesBehindAllFramesStay(t *testing.T) {
	r := with(counting(all+70), 63, 7, 62<<8|1)
	wantModel(t, r, 63, 63, 62, here(0))
	wantModel(t, r, 62, 63, 63, here(0))
}

func TestSpareRoomIsNeitherSeenNorChanged(t *testing.T) {
	whole := with(with(counting(6*64), 2, 1, 3<<8|1), 3, 5, 9<<8|1)
	before := slices.Clone(whole)
	for size := range 6*64 + 1 {
		wantModel(t, whole[:size], 2, 13, 3, here(7))
		wantModel(t, whole[:size], 3, 13, 2, here(7))
	}
	if !bytes.Equal(whole, before) {
		t.Error("what was handed in, or the room behind it, was changed")
	}
}

func TestWhatIsAnsweredIsNewMemory(t *testing.T) {
	r := with(ram.New(), 2, 1, 3<<8|1)
	before := slices.Clone(r)
	put, e := table.Put(r, 2, 13, api.Entry{})
	put = must(t, put, e)
	link, e := table.Link(r, 2, 13, 3)
	link = must(t, link, e)
	for i := range put {
		put[i], link[i] = 0xee, 0xdd
	}
	if !bytes.Equal(r, before) {
		t.Error("a change of an answer is in the list")
	}
	put, _ = table.Put(r, 2, 13, api.Entry{})
	for i := range r {
		r[i] = 0xff
	}
	if !bytes.Equal(put, before) {
		t.Error("a change of the list is in an answer")
	}
}

func FuzzTable(f *testing.F) {
	f.Add(with(ram.New(), 2, 1, 3<<8|1)[:4*64], 2, 13, 3, 1, 9)
	f.Add(counting(100), 0, 0, 1, 2, 5)
	f.Add([]byte{}, -1, 64, -1, 3, -1)
	f.Fuzz(func(t *testing.T, r []byte, root, page, leaf, kind, n int) {
		wantModel(t, r, root, page, leaf, api.Entry{Kind: kind, N: n})
	})
}
