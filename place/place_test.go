package place_test

import (
	"math"
	"math/big"
	"slices"
	"testing"

	"framewarden/api"
	"framewarden/place"
)

// far are numbers that are no pages and no counts; some would be, were they
// cut to fewer bits or counted past an int's end.
var far = []int{math.MinInt, math.MinInt + 1, math.MinInt + 64, math.MinInt32, -1 << 40, -257, -256, -255, -65, -64, -63, -2, -1, 65, 66, 128, 256, 257, 260, 1 << 16, 1<<16 + 1, 1 << 31, 1 << 32, 1<<32 + 1, 1<<32 + 5, 1 << 62, math.MaxInt - 64, math.MaxInt - 63, math.MaxInt - 1, math.MaxInt}

// a and b are what pages are like.
var (
	a = api.Attr{Rights: 1}
	b = api.Attr{Rights: 3, Key: 2, Tagged: true, Sealed: true}
)

func r(from, to int, a api.Attr) api.Region { return api.Region{From: from, To: to, Attr: a} }

// list is short for regions in a list.
func list(l ...api.Region) []api.Region { return l }

// row answers all numbers from first to last.
func row(first, last int) []int {
	var l []int
	for n := first; n <= last; n++ {
		l = append(l, n)
	}
	return l
}

// right has what chapter 8 says of Right.
func right(l []api.Region) bool {
	for i, x := range l {
		if x.From < 0 || x.From >= x.To || x.To > 64 {
			return false
		}
		if i > 0 && (x.From < l[i-1].To || x.From == l[i-1].To && x.Attr == l[i-1].Attr) {
			return false
		}
	}
	return true
}

// model has All's answer: it marks what is taken, with a page more at either
// end that is nobody's, and looks at each page by itself.
func model(l []api.Region, count int) []int {
	if !right(l) || count < 1 || count > 64 {
		return nil
	}
	var taken [66]bool
	for _, x := range l {
		for n := x.From; n < x.To; n++ {
			taken[n+1] = true
		}
	}
	var fits []int
	for p := range 65 - count {
		if !slices.Contains(taken[p:p+count+2], true) {
			fits = append(fits, p)
		}
	}
	return fits
}

// turn answers the rest of draw by n, from 0 on, by numbers that have no end.
func turn(draw, n int) int {
	return int(new(big.Int).Mod(big.NewInt(int64(draw)), big.NewInt(int64(n))).Int64())
}

func wantAll(t *testing.T, l []api.Region, count int, must []int) {
	t.Helper()
	if got := place.All(l, count); !slices.Equal(got, must) {
		t.Errorf("All of %v, %d: %v; want %v", l, count, got, must)
	}
}

func wantChoose(t *testing.T, l []api.Region, count, draw, must int, err api.Errno) {
	t.Helper()
	if got, e := place.Choose(l, count, draw); got != must || e != err {
		t.Errorf("Choose of %v, %d, draw %d: %d, %d; want %d, %d", l, count, draw, got, e, must, err)
	}
}

// draws are numbers on either side of 0 and at an int's ends.
func draws() []int { return slices.Concat(row(-4, 4), []int{63, 64}, far) }

// both holds both calls against the model.
func both(t *testing.T, l []api.Region, count int, draws []int) {
	t.Helper()
	fits := model(l, count)
	wantAll(t, l, count, fits)
	for _, draw := range draws {
		switch {
		case !right(l):
			wantChoose(t, l, count, draw, 0, api.ErrForm)
		case count < 1 || count > 64:
			wantChoose(t, l, count, draw, 0, api.ErrRange)
		case len(fits) == 0:
			wantChoose(t, l, count, draw, 0, api.ErrFull)
		default:
			wantChoose(t, l, count, draw, fits[turn(draw, len(fits))], api.OK)
		}
	}
	if t.Failed() {
		t.FailNow()
	}
}

// wrong are lists that are not Right.
func wrong() [][]api.Region {
	l := [][]api.Region{
		list(r(0, 5, a), r(5, 9, a)),
		list(r(0, 5, a), r(4, 9, b)),
		list(r(0, 9, a), r(3, 5, b)),
		list(r(20, 30, a), r(0, 5, b)),
		list(r(0, 5, a), r(0, 5, a)),
		list(r(0, 5, a), r(5, 5, b)),
		list(r(5, 5, a)),
		list(r(0, 0, a)),
		list(r(64, 64, a)),
		list(r(5, 3, a)),
		list(r(-1, 5, a)),
		list(r(-5, -1, a)),
		list(r(60, 65, a)),
		list(r(64, 65, a)),
		list(r(0, 1, a), r(2, 3, a), r(4, 5, a), r(5, 6, a)),
	}
	for _, n := range far {
		l = append(l, list(r(n, 5, a)), list(r(0, n, a)), list(r(n, n, a)), list(r(0, 1, a), r(n, math.MaxInt, b)))
	}
	return l
}

func TestTheDocumentsExample(t *testing.T) {
	l := list(r(3, 62, a))
	wantAll(t, l, 1, []int{0, 1, 63})
	wantChoose(t, l, 1, 0, 0, api.OK)
	wantChoose(t, l, 1, 1, 1, api.OK)
	wantChoose(t, l, 1, 2, 63, api.OK)
	wantChoose(t, l, 1, 3, 0, api.OK)
	wantChoose(t, l, 1, -1, 63, api.OK)
	wantAll(t, l, 2, []int{0})
	wantAll(t, l, 3, nil)
	wantChoose(t, l, 3, 0, 0, api.ErrFull)
}

func TestOfNothingTakenAllFits(t *testing.T) {
	for _, l := range [][]api.Region{nil, {}, list(r(9, 5, a))[:0]} {
		for count := 1; count <= 64; count++ {
			wantAll(t, l, count, row(0, 64-count))
		}
		wantAll(t, l, 65, nil)
		wantChoose(t, l, 64, 7, 0, api.OK)
		wantChoose(t, l, 63, 7, 1, api.OK)
		wantChoose(t, l, 1, 63, 63, api.OK)
		wantChoose(t, l, 1, 64, 0, api.OK)
	}
}

// TestAPageLiesBetween takes one page: what fits ends before the page ahead
// of it, or begins behind the page that follows it.
func TestAPageLiesBetween(t *testing.T) {
	for n := range 64 {
		for count := 1; count <= 64; count++ {
			wantAll(t, list(r(n, n+1, b)), count, append(row(0, n-count-1), row(n+2, 64-count)...))
		}
	}
}

// TestRoomOfEverySize leaves a gap between two regions: count pages fit
// there from two pages more on.
func TestRoomOfEverySize(t *testing.T) {
	for from := 1; from < 64; from++ {
		for to := from + 1; to < 64; to++ {
			l := list(r(0, from, a), r(to, 64, a))
			for count := 1; count <= 64; count++ {
				wantAll(t, l, count, row(from+1, to-1-count))
			}
		}
	}
}

// TestTheEndsNeedNoPageBetween leaves room at either end alone: there one
// page more than is asked for is enough.
func TestTheEndsNeedNoPageBetween(t *testing.T) {
	for n := range 63 {
		for count := 1; count <= 64; count++ {
			wantAll(t, list(r(n, 64, a)), count, row(0, n-count-1))
			wantAll(t, list(r(0, 64-n, a)), count, row(65-n, 64-count))
		}
	}
}

func TestFull(t *testing.T) {
	for _, l := range [][]api.Region{
		list(r(0, 64, a)),
		list(r(1, 64, b)),
		list(r(0, 63, a)),
		list(r(0, 30, a), r(30, 64, b)),
		list(r(1, 62, a), r(62, 63, b)),
		list(r(0, 10, a), r(12, 62, a), r(63, 64, a)),
	} {
		wantAll(t, l, 1, nil)
		for count := 1; count <= 64; count++ {
			both(t, l, count, draws())
			wantChoose(t, l, count, 0, 0, api.ErrFull)
		}
	}
	wantChoose(t, list(r(63, 64, a)), 63, 5, 0, api.ErrFull)
	wantChoose(t, list(r(63, 64, a)), 62, 5, 0, api.OK)
	wantChoose(t, list(r(0, 1, a)), 62, 5, 2, api.OK)
	wantChoose(t, list(r(0, 1, a)), 64, 5, 0, api.ErrFull)
}

func TestCountsThatAreNone(t *testing.T) {
	for _, l := range [][]api.Region{nil, list(r(3, 62, a)), list(r(0, 64, a)), list(r(3, 5, a), r(5, 9, b))} {
		for _, count := range append([]int{0}, far...) {
			wantAll(t, l, count, nil)
			for _, draw := range draws() {
				wantChoose(t, l, count, draw, 0, api.ErrRange)
			}
		}
	}
}

func TestListsThatAreNotRight(t *testing.T) {
	for _, l := range wrong() {
		// A count that is none is told only of a list that is Right.
		for _, count := range append(row(0, 64), far...) {
			wantAll(t, l, count, nil)
			wantChoose(t, l, count, 0, 0, api.ErrForm)
			wantChoose(t, l, count, math.MinInt, 0, api.ErrForm)
		}
	}
}

func TestDrawsGoRound(t *testing.T) {
	l := list(r(10, 12, a), r(20, 21, b), r(40, 60, a))
	for _, count := range []int{1, 2, 6, 9, 17} {
		fits := model(l, count)
		for i := range 5 * len(fits) {
			wantChoose(t, l, count, i, fits[i%len(fits)], api.OK)
			wantChoose(t, l, count, -1-i, fits[len(fits)-1-i%len(fits)], api.OK)
		}
	}
}

// TestDrawsOfEveryRoom has every number of places from 1 to 64 divide draws
// at an int's ends.
func TestDrawsOfEveryRoom(t *testing.T) {
	for count := 1; count <= 64; count++ {
		for _, draw := range draws() {
			wantChoose(t, nil, count, draw, turn(draw, 65-count), api.OK)
		}
	}
	wantChoose(t, nil, 64, math.MinInt, 0, api.OK)
	wantChoose(t, nil, 62, math.MinInt, 1, api.OK)
	wantChoose(t, nil, 1, math.MinInt, 0, api.OK)
	wantChoose(t, nil, 1, math.MaxInt, 63, api.OK)
}

func TestWhatPagesAreLikeTellsNothing(t *testing.T) {
	for _, x := range []api.Attr{{}, a, b, {Rights: -1, Key: math.MinInt}, {Rights: 99, Key: 99}} {
		wantAll(t, list(r(2, 4, x), r(6, 63, x)), 1, []int{0})
		wantAll(t, list(r(2, 4, x), r(7, 61, x)), 1, []int{0, 5, 62, 63})
	}
	wantAll(t, list(r(2, 4, a), r(4, 9, b), r(9, 10, a)), 50, row(11, 14))
}

// TestAllPatterns holds both calls, with pages taken in every way among
// eight at either end, against the model.
func TestAllPatterns(t *testing.T) {
	for _, first := range []int{0, 56} {
		for bits := range 256 {
			var l []api.Region
			for i := range 8 {
				if bits>>i%2 == 1 {
					l = append(l, r(first+i, first+i+1, api.Attr{Key: i % 2}))
				}
			}
			for count := -1; count <= 66; count++ {
				both(t, l, count, []int{0, 1, 5, -1, math.MinInt, math.MaxInt})
			}
		}
	}
}

// TestWhatIsChosenHasRoom fills up a list with what Choose says, until it is
// full.
func TestWhatIsChosenHasRoom(t *testing.T) {
	for count := 1; count <= 64; count++ {
		for draw := range 64 {
			var l []api.Region
			for {
				at, e := place.Choose(l, count, draw*(len(l)+1))
				if e != api.OK {
					wantChoose(t, l, count, 0, 0, api.ErrFull)
					break
				}
				l = append(l, r(at, at+count, a))
				slices.SortFunc(l, func(x, y api.Region) int { return x.From - y.From })
				for i := range l[1:] {
					if l[i+1].From <= l[i].To {
						t.Fatalf("no page lies between in %v", l)
					}
				}
			}
			if len(l) == 0 {
				t.Fatalf("%d pages have no room where nothing is taken", count)
			}
		}
	}
}

func TestManyRegions(t *testing.T) {
	l := slices.Repeat(list(r(0, 64, a), r(9, 5, a)), 1<<16)
	wantAll(t, l, 1, nil)
	if at, e := place.Choose(l, 1, 0); at != 0 || e != api.ErrForm {
		t.Errorf("Choose: %d, %d", at, e)
	}
	var most []api.Region
	for n := range 64 {
		most = append(most, r(n, n+1, api.Attr{Key: n}))
	}
	both(t, most, 1, draws())
	both(t, most[:40], 5, draws())
}

func TestSpareRoomIsNeitherSeenNorChanged(t *testing.T) {
	whole := list(r(0, 5, a), r(5, 9, b), r(20, 30, a), r(30, 40, a), r(1, 0, b))
	was := slices.Clone(whole)
	for n := range whole {
		for count := range 66 {
			both(t, whole[:n], count, draws())
		}
	}
	if !slices.Equal(whole, was) {
		t.Errorf("%v was changed to %v", was, whole)
	}
}

// TestAnswersAreNewMemory changes what was answered, and its spare room, and
// looks whether the next answer is as it was.
func TestAnswersAreNewMemory(t *testing.T) {
	l := list(r(3, 62, a))
	got := place.All(l, 1)
	got = got[:cap(got)]
	for i := range got {
		got[i] = 77
	}
	again := place.All(l, 1)
	clear(l)
	if !slices.Equal(again, []int{0, 1, 63}) {
		t.Errorf("All: %v; want 0, 1, 63", again)
	}
}

// FuzzBoth makes a list, right or not, of three numbers a region, and holds
// both calls against the model.
func FuzzBoth(f *testing.F) {
	f.Add([]byte{3, 62, 0}, 1, 2)
	f.Add([]byte{0, 5, 1, 5, 9, 0, 20, 40, 1}, 9, -1)
	f.Add([]byte{0, 5, 1, 5, 9, 1}, 65, math.MinInt)
	f.Fuzz(func(t *testing.T, text []byte, count, draw int) {
		var l []api.Region
		for ; len(text) >= 3; text = text[3:] {
			l = append(l, r(int(int8(text[0])), int(int8(text[1])), api.Attr{Key: int(text[2])}))
		}
		both(t, l, count, []int{draw})
		both(t, l, count&63, []int{draw, -draw})
	})
}
