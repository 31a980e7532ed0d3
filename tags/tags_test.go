package tags_test

import (
	"bytes"
	"math"
	"slices"
	"testing"

	"framewarden/api"
	"framewarden/tags"
)

const all = api.Frames * api.Grains

// far are numbers that are neither granules nor tags of short lists.
var far = []int{math.MinInt, math.MinInt + 1, math.MinInt32, -17, -16, -2, -1, 257, 1 << 31, 1 << 32, 1 << 61, 1 << 62, 1<<62 + 1, math.MaxInt - 7, math.MaxInt - 1, math.MaxInt}

// some answers n bytes of which no two neighbours' halves are alike.
func some(n int) []byte {
	out := make([]byte, n)
	for i := range out {
		out[i] = byte(0x21 + 0x22*i)
	}
	return out
}

// spread answers the tags of t as numbers, one a granule.
func spread(t []byte) []int {
	var out []int
	for _, b := range t {
		out = append(out, int(b)%16, int(b)/16)
	}
	return out
}

// gathered is spread the other way round.
func gathered(l []int) []byte {
	out := make([]byte, len(l)/2)
	for i := range out {
		out[i] = byte(l[2*i] + 16*l[2*i+1])
	}
	return out
}

// model says what Set must answer, by numbers instead of bits.
func model(t []byte, from, many, tag int) ([]byte, api.Errno) {
	l := spread(t)
	if tag < 0 || tag > 15 || from < 0 || many < 0 || from > len(l) || many > len(l)-from {
		return nil, api.ErrRange
	}
	for i := range many {
		l[from+i] = tag
	}
	return gathered(l), api.OK
}

func wantGet(t *testing.T, l []byte, g, want int, wrong api.Errno) {
	t.Helper()
	if v, e := tags.Get(l, g); v != want || e != wrong {
		t.Errorf("Get of %x, g %d: %d, %d; want %d, %d", l, g, v, e, want, wrong)
	}
}

func wantSet(t *testing.T, l []byte, from, many, tag int, want []byte, wrong api.Errno) {
	t.Helper()
	got, e := tags.Set(l, from, many, tag)
	if !bytes.Equal(got, want) || e != wrong {
		t.Errorf("Set in %x, from %d, many %d, tag %d: %x, %d; want %x, %d", l, from, many, tag, got, e, want, wrong)
	}
}

func wantModel(t *testing.T, l []byte, from, many, tag int) {
	t.Helper()
	want, e := model(l, from, many, tag)
	wantSet(t, l, from, many, tag, want, e)
}

func TestNewHasAByteForTwoGranules(t *testing.T) {
	for n := range all + 1 {
		size := n / 2
		if n%2 == 1 {
			size++
		}
		if got := tags.New(n); !bytes.Equal(got, make([]byte, size)) {
			t.Errorf("New(%d): %x; want %d noughts", n, got, size)
		}
	}
}

func TestNewOfFewerThanNoneHasNone(t *testing.T) {
	for _, n := range []int{-1, -2, -3, -256, math.MinInt32, math.MinInt + 1, math.MinInt} {
		if got := tags.New(n); len(got) != 0 {
			t.Errorf("New(%d): %x; want none", n, got)
		}
	}
}

func TestNewOfMoreThanAllFramesHaveHasThoseOfAll(t *testing.T) {
	for _, n := range []int{256, 257, 258, 259, 512, 1 << 31, 1 << 62, math.MaxInt - 1, math.MaxInt} {
		if got := tags.New(n); !bytes.Equal(got, make([]byte, 128)) {
			t.Errorf("New(%d): %x; want 128 noughts", n, got)
		}
	}
}

func TestNewIsNewEachTime(t *testing.T) {
	first := tags.New(all)
	for i := range first {
		first[i] = 0xff
	}
	if !bytes.Equal(tags.New(all), make([]byte, 128)) {
		t.Error("what is written into one New is in the next one")
	}
}

func TestGetTakesTheLowerBitsOfEvenAndTheUpperOnesOfOddGranules(t *testing.T) {
	l := []byte{0x21, 0x43, 0xf0}
	for g, want := range []int{1, 2, 3, 4, 0, 15} {
		wantGet(t, l, g, want, api.OK)
	}
}

func TestGetKnowsEachByte(t *testing.T) {
	for b := range 256 {
		l := []byte{byte(^b), byte(b), byte(^b)}
		wantGet(t, l, 2, b%16, api.OK)
		wantGet(t, l, 3, b/16, api.OK)
	}
}

func TestGetOfNoSuchGranuleIsRange(t *testing.T) {
	for size := range 5 {
		l := bytes.Repeat([]byte{0xff}, size)
		wantGet(t, l, 2*size, 0, api.ErrRange)
		wantGet(t, l, 2*size+1, 0, api.ErrRange)
		for _, g := range far {
			wantGet(t, l, g, 0, api.ErrRange)
		}
	}
	wantGet(t, nil, 0, 0, api.ErrRange)
	wantGet(t, []byte{}, 0, 0, api.ErrRange)
}

func TestGetGoesByTheListsLength(t *testing.T) {
	l := some(200)
	wantGet(t, l, 399, int(l[199])/16, api.OK)
	wantGet(t, l, 400, 0, api.ErrRange)
	wantGet(t, l[:3], 6, 0, api.ErrRange)
}

func TestSetOfTheDocumentsExample(t *testing.T) {
	wantSet(t, tags.New(4), 1, 2, 9, []byte{0x90, 0x09}, api.OK)
}

func TestSetLeavesTheOtherHalf(t *testing.T) {
	for b := range 256 {
		for tag := range 16 {
			wantSet(t, []byte{byte(b)}, 0, 1, tag, []byte{byte(b/16*16 + tag)}, api.OK)
			wantSet(t, []byte{byte(b)}, 1, 1, tag, []byte{byte(tag*16 + b%16)}, api.OK)
			wantSet(t, []byte{byte(b)}, 0, 2, tag, []byte{byte(tag*16 + tag)}, api.OK)
		}
	}
}

func TestSetIsAsTheModelSays(t *testing.T) {
	for size := range 5 {
		for from := -2; from <= 2*size+2; from++ {
			for many := -2; many <= 2*size+2; many++ {
				for tag := -2; tag <= 17; tag++ {
					wantModel(t, some(size), from, many, tag)
				}
			}
		}
	}
}

func TestSetOfNumbersFarOffIsRange(t *testing.T) {
	l := some(3)
	for _, n := range far {
		wantSet(t, l, n, 1, 9, nil, api.ErrRange)
		wantSet(t, l, n, 0, 9, nil, api.ErrRange)
		wantSet(t, l, 1, n, 9, nil, api.ErrRange)
		wantSet(t, l, 1, 1, n, nil, api.ErrRange)
		wantSet(t, l, 1, 0, n, nil, api.ErrRange)
		for _, m := range far {
			wantSet(t, l, n, m, 9, nil, api.ErrRange)
			wantSet(t, nil, n, m, 9, nil, api.ErrRange)
		}
		wantSet(t, l, n, -n, 9, nil, api.ErrRange)
		wantSet(t, l, n, 1-n, 9, nil, api.ErrRange)
		wantSet(t, l, n, 6-n, 9, nil, api.ErrRange)
	}
}

func TestSetOfNone(t *testing.T) {
	l := []byte{0x21, 0x43, 0x65}
	for from := range 7 {
		wantSet(t, l, from, 0, 9, l, api.OK)
	}
	wantSet(t, l, 7, 0, 9, nil, api.ErrRange)
	wantSet(t, l, -1, 0, 9, nil, api.ErrRange)
	wantSet(t, l, 3, 0, 16, nil, api.ErrRange)
	wantSet(t, l, 3, 0, -1, nil, api.ErrRange)
}

func TestSetInNoGranules(t *testing.T) {
	for _, l := range [][]byte{nil, {}} {
		wantSet(t, l, 0, 0, 9, nil, api.OK)
		wantSet(t, l, 0, 1, 9, nil, api.ErrRange)
		wantSet(t, l, 1, 0, 9, nil, api.ErrRange)
		wantSet(t, l, 1, -1, 9, nil, api.ErrRange)
		wantSet(t, l, 0, 0, 16, nil, api.ErrRange)
	}
}

func TestSetGoesByTheListsLength(t *testing.T) {
	l := some(200)
	for _, from := range []int{0, 1, 255, 256, 257, 398, 399, 400, 401} {
		for _, many := range []int{0, 1, 2, 143, 144, 145, 256, 399, 400, 401} {
			wantModel(t, l, from, many, 6)
		}
	}
}

func TestSetReachesAllGranulesOfNew(t *testing.T) {
	wantSet(t, tags.New(all), 0, all, 15, bytes.Repeat([]byte{0xff}, 128), api.OK)
	wantSet(t, tags.New(all), 0, all+1, 15, nil, api.ErrRange)
	// The last byte of an odd number has a granule more.
	wantSet(t, tags.New(5), 5, 1, 7, []byte{0, 0, 0x70}, api.OK)
}

func TestWhatWasSetIsThereAndNothingElse(t *testing.T) {
	l := tags.New(all)
	want := make([]int, all)
	for i := range 2000 {
		from, tag := i*37%all, i*7%16
		many := i * 11 % (all - from + 1)
		var e api.Errno
		if l, e = tags.Set(l, from, many, tag); e != api.OK {
			t.Fatalf("Set, from %d, many %d, tag %d: %d", from, many, tag, e)
		}
		for g := from; g < from+many; g++ {
			want[g] = tag
		}
		if got := spread(l); !slices.Equal(got, want) {
			t.Fatalf("behind Set, from %d, many %d, tag %d: %d; want %d", from, many, tag, got, want)
		}
	}
	for g, tag := range want {
		wantGet(t, l, g, tag, api.OK)
	}
}

func TestSetLeavesWhatItIsHandedAndTheRoomBehind(t *testing.T) {
	whole := some(8)
	l := whole[2:5]
	for _, c := range [][3]int{{0, 6, 9}, {1, 3, 0}, {6, 0, 9}, {5, 2, 9}, {0, 1, 16}, {6, 1, 9}} {
		tags.Set(l, c[0], c[1], c[2])
		if !bytes.Equal(whole, some(8)) {
			t.Fatalf("Set of %d changes what it is handed to %x", c, whole)
		}
	}
	tags.Get(l, 5)
	if !bytes.Equal(whole, some(8)) {
		t.Errorf("Get changes what it is handed to %x", whole)
	}
}

func TestSetKeepsNothingOfWhatItIsHanded(t *testing.T) {
	for _, many := range []int{0, 1, 6} {
		l := some(3)
		got, _ := tags.Set(l, 0, many, 9)
		before := bytes.Clone(got)
		clear(l)
		if !bytes.Equal(got, before) {
			t.Errorf("what Set of %d answered changes with what it was handed", many)
		}
		for i := range got {
			got[i] = 0xee
		}
		if !bytes.Equal(l, make([]byte, 3)) {
			t.Errorf("what Set of %d was handed changes with what it answered", many)
		}
	}
}

func TestSetOfAnEmptyListWithRoomDoesNotReachIntoIt(t *testing.T) {
	whole := some(4)
	got, e := tags.Set(whole[:0], 0, 0, 9)
	if len(got) != 0 || e != api.OK {
		t.Fatalf("Set in none: %x, %d", got, e)
	}
	_ = append(got, 0xee)
	if !bytes.Equal(whole, some(4)) {
		t.Errorf("what Set answered has room in what it was handed: %x", whole)
	}
	wantGet(t, whole[:0], 0, 0, api.ErrRange)
	wantSet(t, whole[:0], 0, 1, 9, nil, api.ErrRange)
}

func FuzzSet(f *testing.F) {
	f.Add([]byte{0x21, 0x43}, 1, 2, 9)
	f.Add([]byte{}, 0, 0, 0)
	f.Fuzz(func(t *testing.T, l []byte, from, many, tag int) {
		wantModel(t, l, from, many, tag)
		if from >= 0 && from < 2*len(l) {
			wantGet(t, l, from, spread(l)[from], api.OK)
		} else {
			wantGet(t, l, from, 0, api.ErrRange)
		}
	})
}
