package region_test

import (
	"math"
	"slices"
	"testing"

	"framewarden/api"
	"framewarden/region"
)

// far are numbers that are no pages; some would be, were they cut to fewer
// bits or counted past an int's end.
var far = []int{math.MinInt, math.MinInt + 1, math.MinInt + 64, math.MinInt32, -1 << 40, -257, -256, -65, -64, -2, -1, 65, 66, 128, 256, 257, 260, 1 << 16, 1 << 31, 1 << 32, 1<<32 + 1, 1<<32 + 5, 1 << 62, math.MaxInt - 64, math.MaxInt - 1, math.MaxInt}

// a and b are what pages are like; those of unlike differ from a by one thing.
var (
	a      = api.Attr{Rights: 1}
	b      = api.Attr{Rights: 3, Key: 2, Tagged: true}
	unlike = []api.Attr{{}, {Rights: 2}, {Rights: 1, Key: 1}, {Rights: 1, Tagged: true}, {Rights: 1, Sealed: true}, {Rights: -1}, {Rights: 1 + 1<<32}, {Rights: 1, Key: 1 << 32}, {Rights: 1, Key: math.MinInt}}
)

func r(from, to int, a api.Attr) api.Region { return api.Region{From: from, To: to, Attr: a} }

// list is short for regions in a list.
func list(l ...api.Region) []api.Region { return l }

// book says of each page what it is like; nothing, if it is not there.
type book [64]*api.Attr

// pages writes l down page by page; the first region that has a page counts.
func pages(l []api.Region) book {
	var p book
	for n := range p {
		for i := range l {
			if p[n] == nil && l[i].From <= n && n < l[i].To {
				p[n] = &l[i].Attr
			}
		}
	}
	return p
}

// told tells a book in as few regions as there can be.
func told(p book) []api.Region {
	var l []api.Region
	for n, x := range p {
		switch {
		case x == nil:
		case n > 0 && p[n-1] != nil && *p[n-1] == *x:
			l[len(l)-1].To++
		default:
			l = append(l, r(n, n+1, *x))
		}
	}
	return l
}

func span(from, to int) bool { return from >= 0 && to <= 64 && from < to }

// right has Right's answer: spans are right if they are as their own pages
// would be told.
func right(l []api.Region) bool {
	for _, x := range l {
		if !span(x.From, x.To) {
			return false
		}
	}
	return slices.Equal(l, told(pages(l)))
}

// model does a thing page by page: do is asked what each page of from, to
// should be like, and may refuse.
func model(l []api.Region, from, to int, do func(*api.Attr) (*api.Attr, api.Errno)) ([]api.Region, api.Errno) {
	if !right(l) {
		return nil, api.ErrForm
	}
	if !span(from, to) {
		return nil, api.ErrRange
	}
	p := pages(l)
	for n := from; n < to; n++ {
		x, e := do(p[n])
		if e != api.OK {
			return nil, e
		}
		p[n] = x
	}
	return told(p), api.OK
}

// there makes of a change of what a page is like one that refuses pages that
// are not there.
func there(change func(api.Attr) api.Attr) func(*api.Attr) (*api.Attr, api.Errno) {
	return func(x *api.Attr) (*api.Attr, api.Errno) {
		if x == nil {
			return nil, api.ErrNone
		}
		y := change(*x)
		return &y, api.OK
	}
}

func same(t *testing.T, what string, got []api.Region, e api.Errno, must []api.Region, err api.Errno) {
	t.Helper()
	if e != err || !slices.Equal(got, must) {
		t.Errorf("%s: %v, %d; want %v, %d", what, got, e, must, err)
	}
	if e == api.OK && !region.Right(got) {
		t.Errorf("%s: %v is not Right", what, got)
	}
}

// all holds every call on l, from, to against its model, and looks whether l
// stays as it is.
func all(t *testing.T, l []api.Region, from, to int, x api.Attr) {
	t.Helper()
	was := slices.Clone(l)
	got, e := region.Add(l, r(from, to, x))
	must, err := model(l, from, to, func(y *api.Attr) (*api.Attr, api.Errno) {
		if y != nil {
			return nil, api.ErrHeld
		}
		return &x, api.OK
	})
	same(t, "Add", got, e, must, err)
	got, e = region.Cut(l, from, to)
	must, err = model(l, from, to, func(*api.Attr) (*api.Attr, api.Errno) { return nil, api.OK })
	same(t, "Cut", got, e, must, err)
	got, e = region.Turn(l, from, to, x)
	must, err = model(l, from, to, there(func(api.Attr) api.Attr { return x }))
	same(t, "Turn", got, e, must, err)
	got, e = region.Seal(l, from, to)
	must, err = model(l, from, to, there(func(y api.Attr) api.Attr {
		return api.Attr{Rights: y.Rights, Key: y.Key, Tagged: y.Tagged, Sealed: true}
	}))
	same(t, "Seal", got, e, must, err)
	got, e = region.Guard(l, from, to, x.Rights, x.Key)
	must, err = model(l, from, to, there(func(y api.Attr) api.Attr {
		return api.Attr{Rights: x.Rights, Key: x.Key, Tagged: y.Tagged, Sealed: y.Sealed}
	}))
	same(t, "Guard", got, e, must, err)
	if !slices.Equal(l, was) {
		t.Errorf("%v was changed to %v", was, l)
	}
	if t.Failed() {
		t.Fatalf("of %v, %d, %d, %v", l, from, to, x)
	}
}

// refused looks whether every call on l, from, to is refused by e.
func refused(t *testing.T, l []api.Region, from, to int, e api.Errno) {
	t.Helper()
	x, err := region.Add(l, r(from, to, a))
	same(t, "Add", x, err, nil, e)
	x, err = region.Cut(l, from, to)
	same(t, "Cut", x, err, nil, e)
	x, err = region.Turn(l, from, to, a)
	same(t, "Turn", x, err, nil, e)
	x, err = region.Seal(l, from, to)
	same(t, "Seal", x, err, nil, e)
	x, err = region.Guard(l, from, to, 1, 0)
	same(t, "Guard", x, err, nil, e)
	if t.Failed() {
		t.Fatalf("of %v, %d, %d", l, from, to)
	}
}

// wrong are lists that are not Right.
func wrong() [][]api.Region {
	l := [][]api.Region{
		list(r(0, 5, a), r(5, 9, a)),
		list(r(0, 5, a), r(4, 9, b)),
		list(r(0, 5, a), r(4, 9, a)),
		list(r(0, 9, a), r(3, 5, b)),
		list(r(3, 5, b), r(0, 9, a)),
		list(r(5, 9, a), r(0, 5, b)),
		list(r(5, 9, a), r(0, 5, a)),
		list(r(20, 30, a), r(0, 5, b)),
		list(r(0, 5, a), r(0, 5, a)),
		list(r(0, 5, a), r(0, 5, b)),
		list(r(0, 5, a), r(5, 5, b)),
		list(r(5, 5, a)),
		list(r(0, 0, a)),
		list(r(64, 64, a)),
		list(r(9, 5, a)),
		list(r(-1, 5, a)),
		list(r(-5, -1, a)),
		list(r(60, 65, a)),
		list(r(64, 65, a)),
		list(r(0, 1, a), r(2, 3, a), r(4, 5, a), r(5, 6, a)),
		list(r(0, 1, a), r(1, 2, b), r(2, 3, a), r(3, 4, a)),
		list(r(0, 1, a), r(63, 65, a)),
	}
	for _, n := range far {
		l = append(l, list(r(n, 5, a)), list(r(0, n, a)), list(r(n, n, a)))
		for _, m := range far {
			l = append(l, list(r(n, m, a)), list(r(0, 1, a), r(n, m, b)), list(r(n, m, a), r(3, 4, a)))
		}
	}
	return l
}

func TestTheDocumentsExample(t *testing.T) {
	l, e := region.Add(nil, r(0, 6, a))
	same(t, "Add", l, e, list(r(0, 6, a)), api.OK)
	l, e = region.Cut(l, 1, 3)
	same(t, "Cut", l, e, list(r(0, 1, a), r(3, 6, a)), api.OK)
	if n := region.Count(l); n != 4 {
		t.Errorf("Count: %d; want 4", n)
	}
}

func TestRight(t *testing.T) {
	for _, l := range [][]api.Region{
		nil,
		{},
		list(r(0, 1, a)),
		list(r(0, 64, a)),
		list(r(63, 64, a)),
		list(r(0, 5, a), r(5, 9, b)),
		list(r(0, 5, a), r(6, 9, a)),
		list(r(0, 5, a), r(5, 9, b), r(9, 64, a)),
		list(r(0, 1, api.Attr{Rights: 99, Key: -7}), r(62, 64, api.Attr{})),
	} {
		if !region.Right(l) {
			t.Errorf("%v is Right", l)
		}
	}
	for _, l := range wrong() {
		if region.Right(l) {
			t.Errorf("%v is not Right", l)
		}
	}
}

func TestAlikeIsAlikeInAllThings(t *testing.T) {
	if region.Right(list(r(3, 5, a), r(5, 6, a))) {
		t.Error("two that touch and are alike are not Right")
	}
	for _, x := range unlike {
		l := list(r(3, 5, a), r(5, 6, x))
		if !region.Right(l) {
			t.Errorf("%v is Right", l)
		}
		got, e := region.Add(list(r(3, 5, a)), r(5, 6, x))
		same(t, "Add", got, e, l, api.OK)
		got, e = region.Turn(list(r(3, 6, a)), 5, 6, x)
		same(t, "Turn", got, e, l, api.OK)
		got, e = region.Turn(l, 5, 6, a)
		same(t, "Turn", got, e, list(r(3, 6, a)), api.OK)
	}
}

func TestRightOfAllPairs(t *testing.T) {
	places := []int{-1, 0, 1, 2, 3, 4, 62, 63, 64, 65}
	for _, f := range places {
		for _, g := range places {
			for _, h := range places {
				for _, i := range places {
					for _, x := range []api.Attr{a, b} {
						l := list(r(f, g, a), r(h, i, x))
						if got := region.Right(l); got != right(l) {
							t.Fatalf("Right of %v: %v", l, got)
						}
					}
				}
			}
		}
	}
}

func wantFind(t *testing.T, l []api.Region, page int, must api.Attr, ok bool) {
	t.Helper()
	if got, has := region.Find(l, page); got != must || has != ok {
		t.Errorf("Find of %v, %d: %v, %v; want %v, %v", l, page, got, has, must, ok)
	}
}

func TestFind(t *testing.T) {
	l := list(r(2, 5, a), r(5, 9, b), r(20, 64, a))
	p := pages(l)
	for n := -3; n < 70; n++ {
		if n < 0 || n > 63 || p[n] == nil {
			wantFind(t, l, n, api.Attr{}, false)
		} else {
			wantFind(t, l, n, *p[n], true)
		}
	}
	for _, n := range far {
		wantFind(t, l, n, api.Attr{}, false)
	}
	wantFind(t, nil, 0, api.Attr{}, false)
	wantFind(t, list(r(0, 1, api.Attr{})), 0, api.Attr{}, true)
}

func TestFindOfListsThatAreNotRight(t *testing.T) {
	wantFind(t, list(r(5, 9, b), r(0, 9, a)), 6, b, true)
	wantFind(t, list(r(5, 9, b), r(0, 9, a)), 4, a, true)
	wantFind(t, list(r(9, 5, b), r(7, 7, b), r(6, 8, a)), 7, a, true)
	wantFind(t, list(r(9, 5, b)), 7, api.Attr{}, false)
	wantFind(t, list(r(7, 7, b)), 7, api.Attr{}, false)
	wantFind(t, list(r(-9, -5, b)), -7, b, true)
	wantFind(t, list(r(60, 70, b)), 69, b, true)
	wantFind(t, list(r(60, 70, b)), 70, api.Attr{}, false)
	wantFind(t, list(r(math.MinInt, math.MaxInt, b)), math.MinInt, b, true)
	wantFind(t, list(r(math.MinInt, math.MaxInt, b)), math.MaxInt-1, b, true)
	wantFind(t, list(r(math.MinInt, math.MaxInt, b)), math.MaxInt, api.Attr{}, false)
}

func wantCount(t *testing.T, l []api.Region, must int) {
	t.Helper()
	if got := region.Count(l); got != must {
		t.Errorf("Count of %v: %d; want %d", l, got, must)
	}
}

func TestCount(t *testing.T) {
	wantCount(t, nil, 0)
	wantCount(t, list(r(0, 64, a)), 64)
	wantCount(t, list(r(0, 5, a), r(5, 9, b), r(20, 64, a)), 53)
	wantCount(t, list(r(5, 9, a), r(8, 10, b)), 6)
	wantCount(t, list(r(0, 64, a), r(0, 64, a), r(0, 64, b)), 192)
	wantCount(t, list(r(9, 5, a)), 0)
	wantCount(t, list(r(9, 5, a), r(1, 3, a)), 2)
	wantCount(t, list(r(-1, 5, a)), 5)
	wantCount(t, list(r(60, 65, a)), 4)
	wantCount(t, list(r(64, 70, a), r(-9, 0, a)), 0)
}

// TestCountOfNumbersFarOff counts page by page what regions have that begin
// or end where no page is.
func TestCountOfNumbersFarOff(t *testing.T) {
	places := append([]int{0, 1, 30, 62, 63, 64}, far...)
	for _, f := range places {
		for _, g := range places {
			must := 0
			for n := range 64 {
				if f <= n && n < g {
					must++
				}
			}
			wantCount(t, list(r(f, g, a)), must)
			wantCount(t, list(r(3, 4, a), r(f, g, a), r(f, g, a)), 2*must+1)
		}
	}
}

func TestManyRegions(t *testing.T) {
	l := slices.Repeat(list(r(0, 64, a), r(9, 5, a), r(math.MaxInt, math.MinInt, a)), 1<<16)
	wantCount(t, l, 64<<16)
	l = append(l, r(70, 80, b))
	wantFind(t, l, 75, b, true)
	refused(t, l, 0, 1, api.ErrForm)
}

func TestListsThatAreNotRightAreRefused(t *testing.T) {
	for _, l := range wrong() {
		refused(t, l, 0, 1, api.ErrForm)
		refused(t, l, 30, 40, api.ErrForm)
		refused(t, l, 5, 5, api.ErrForm)
		refused(t, l, -1, 65, api.ErrForm)
	}
}

func TestWhatIsNoSpanIsRefused(t *testing.T) {
	for _, l := range [][]api.Region{nil, list(r(0, 64, a)), list(r(3, 5, a), r(9, 10, b))} {
		for n := 0; n <= 64; n++ {
			refused(t, l, n, n, api.ErrRange)
			refused(t, l, n, n-1, api.ErrRange)
			refused(t, l, n, -1, api.ErrRange)
			refused(t, l, -1, n, api.ErrRange)
			refused(t, l, n, 65, api.ErrRange)
			for _, f := range far {
				refused(t, l, n, f, api.ErrRange)
				refused(t, l, f, n, api.ErrRange)
			}
		}
		for _, f := range far {
			for _, g := range far {
				refused(t, l, f, g, api.ErrRange)
			}
		}
	}
}

func TestAddHoldsWhereOnePageIsThere(t *testing.T) {
	for n := range 64 {
		l := list(r(n, n+1, b))
		for from := 0; from <= n; from++ {
			for to := n + 1; to <= 64; to++ {
				x, e := region.Add(l, r(from, to, b))
				same(t, "Add", x, e, nil, api.ErrHeld)
			}
		}
	}
}

func TestChangesWantEveryPage(t *testing.T) {
	for n := range 64 {
		l, e := region.Cut(list(r(0, 64, b)), n, n+1)
		if e != api.OK || region.Count(l) != 63 {
			t.Fatalf("all but page %d: %v, %d", n, l, e)
		}
		for from := 0; from <= n; from++ {
			for to := n + 1; to <= 64; to++ {
				x, e := region.Turn(l, from, to, a)
				same(t, "Turn", x, e, nil, api.ErrNone)
				x, e = region.Seal(l, from, to)
				same(t, "Seal", x, e, nil, api.ErrNone)
				x, e = region.Guard(l, from, to, 1, 1)
				same(t, "Guard", x, e, nil, api.ErrNone)
			}
		}
	}
}

func TestAddJoinsBothSides(t *testing.T) {
	l := list(r(0, 5, a), r(9, 12, a))
	x, e := region.Add(l, r(5, 9, a))
	same(t, "Add", x, e, list(r(0, 12, a)), api.OK)
	x, e = region.Add(l, r(5, 9, b))
	same(t, "Add", x, e, list(r(0, 5, a), r(5, 9, b), r(9, 12, a)), api.OK)
	x, e = region.Add(l, r(6, 9, a))
	same(t, "Add", x, e, list(r(0, 5, a), r(6, 12, a)), api.OK)
	x, e = region.Add(l, r(5, 8, a))
	same(t, "Add", x, e, list(r(0, 8, a), r(9, 12, a)), api.OK)
}

func TestSealKeepsAllElse(t *testing.T) {
	for _, x := range append([]api.Attr{a, b}, unlike...) {
		y := x
		y.Sealed = true
		got, e := region.Seal(list(r(0, 64, x)), 0, 64)
		same(t, "Seal", got, e, list(r(0, 64, y)), api.OK)
		again, e := region.Seal(got, 10, 20)
		same(t, "Seal", again, e, got, api.OK)
	}
}

func TestGuardKeepsTagsAndSeals(t *testing.T) {
	for _, n := range append([]int{0, 3, 5}, far...) {
		for i := range 4 {
			x := api.Attr{Rights: 1, Key: 1, Tagged: i%2 == 1, Sealed: i > 1}
			y := api.Attr{Rights: n, Key: -n, Tagged: i%2 == 1, Sealed: i > 1}
			got, e := region.Guard(list(r(7, 9, x)), 7, 9, n, -n)
			same(t, "Guard", got, e, list(r(7, 9, y)), api.OK)
		}
	}
}

func TestGuardDoesNotJoinWhatIsTaggedOrSealedOtherwise(t *testing.T) {
	l := list(r(0, 3, a), r(3, 6, b), r(6, 8, api.Attr{Rights: 7, Tagged: true}))
	x, e := region.Guard(l, 0, 8, 1, 3)
	same(t, "Guard", x, e, list(r(0, 3, api.Attr{Rights: 1, Key: 3}), r(3, 8, api.Attr{Rights: 1, Key: 3, Tagged: true})), api.OK)
}

func TestTurnTakesEverySealAway(t *testing.T) {
	l := list(r(0, 3, api.Attr{Sealed: true}), r(3, 6, b))
	x, e := region.Turn(l, 0, 6, a)
	same(t, "Turn", x, e, list(r(0, 6, a)), api.OK)
}

// TestAllSpansOfSomeLists holds every call with every span, and with those
// beside them, against the model.
func TestAllSpansOfSomeLists(t *testing.T) {
	sealed := api.Attr{Rights: 1, Sealed: true}
	for _, l := range [][]api.Region{
		nil,
		list(r(0, 64, a)),
		list(r(0, 5, a), r(5, 9, b), r(20, 64, a)),
		list(r(1, 2, a), r(3, 4, a), r(4, 5, b), r(63, 64, b)),
		list(r(0, 30, a), r(30, 31, sealed), r(31, 64, a)),
		list(r(0, 5, a), r(4, 9, b)),
	} {
		for from := -1; from <= 65; from++ {
			for to := -1; to <= 65; to++ {
				all(t, l, from, to, a)
				all(t, l, from, to, b)
			}
		}
	}
}

// TestAllBooksOfFivePages holds every call on whatever five pages at either
// end may be like against the model.
func TestAllBooksOfFivePages(t *testing.T) {
	kinds := []*api.Attr{nil, &a, &b, {Rights: 1, Sealed: true}}
	for _, first := range []int{0, 59} {
		for n := range 1024 {
			var p book
			for i := range 5 {
				p[first+i] = kinds[n>>(2*i)%4]
			}
			l := told(p)
			for from := first - 1; from < first+6; from++ {
				for to := from; to < first+7; to++ {
					all(t, l, from, to, a)
				}
			}
		}
	}
}

func TestTakenAndGivenBackIsAsItWas(t *testing.T) {
	l := list(r(0, 5, a), r(9, 12, b), r(12, 20, a))
	for from := 0; from < 64; from++ {
		for to := from + 1; to <= 64; to++ {
			x, e := region.Add(l, r(from, to, a))
			if e != api.OK {
				continue
			}
			x, e = region.Cut(x, from, to)
			same(t, "Cut", x, e, l, api.OK)
		}
	}
}

func TestSpareRoomIsNeitherSeenNorChanged(t *testing.T) {
	whole := list(r(0, 5, a), r(5, 9, b), r(20, 30, a), r(30, 40, a), r(1, 0, b))
	was := slices.Clone(whole)
	for n := range 4 {
		if !region.Right(whole[:n]) {
			t.Errorf("%v is Right", whole[:n])
		}
		for from := range 64 {
			all(t, whole[:n], from, min(from+7, 64), b)
		}
	}
	wantFind(t, whole[:2], 25, api.Attr{}, false)
	wantCount(t, whole[:2], 9)
	if !slices.Equal(whole, was) {
		t.Errorf("%v was changed to %v", was, whole)
	}
}

// TestAnswersAreNewMemory changes what was answered, and its spare room, and
// looks whether what was handed in stays.
func TestAnswersAreNewMemory(t *testing.T) {
	whole := list(r(0, 5, a), r(5, 9, b), r(20, 64, a), r(0, 0, b))
	was := slices.Clone(whole)
	l := whole[:3]
	calls := []func() ([]api.Region, api.Errno){
		func() ([]api.Region, api.Errno) { return region.Add(l, r(9, 11, b)) },
		func() ([]api.Region, api.Errno) { return region.Add(l, r(12, 13, b)) },
		func() ([]api.Region, api.Errno) { return region.Cut(l, 10, 15) },
		func() ([]api.Region, api.Errno) { return region.Cut(l, 20, 64) },
		func() ([]api.Region, api.Errno) { return region.Turn(l, 0, 5, a) },
		func() ([]api.Region, api.Errno) { return region.Seal(l, 2, 7) },
		func() ([]api.Region, api.Errno) { return region.Guard(l, 5, 9, 3, 2) },
	}
	for i, call := range calls {
		got, e := call()
		if e != api.OK || len(got) == 0 {
			t.Errorf("call %d: %v, %d", i, got, e)
		}
		got = got[:cap(got)]
		for k := range got {
			got[k] = r(77, 78, b)
		}
		if !slices.Equal(whole, was) {
			t.Fatalf("call %d answers memory of what it was handed", i)
		}
		again, e := call()
		if e != api.OK || slices.Contains(again, r(77, 78, b)) {
			t.Errorf("call %d answers what it answered before: %v, %d", i, again, e)
		}
	}
}

func TestNilAndEmptyAreTheSame(t *testing.T) {
	for _, l := range [][]api.Region{nil, {}, list(r(9, 5, a))[:0]} {
		all(t, l, 0, 64, a)
		all(t, l, 63, 64, b)
		all(t, l, 64, 65, b)
		wantCount(t, l, 0)
	}
}

// FuzzAll makes a list, right or not, of four numbers a region, and holds
// all calls against the model.
func FuzzAll(f *testing.F) {
	f.Add([]byte{0, 5, 1, 0, 5, 9, 3, 1}, 3, 7, 1, 0)
	f.Add([]byte{0, 5, 1, 0, 5, 9, 1, 0}, -1, 70, 2, 3)
	f.Add([]byte{200, 5, 1, 0, 60, 70, 1, 2}, 0, 64, 5, 1)
	f.Fuzz(func(t *testing.T, text []byte, from, to, rights, key int) {
		var l []api.Region
		for ; len(text) >= 4; text = text[4:] {
			x := api.Attr{Rights: int(text[2]) % 8, Key: int(text[3]) % 4, Tagged: text[3]&16 != 0, Sealed: text[3]&32 != 0}
			l = append(l, r(int(int8(text[0])), int(int8(text[1])), x))
		}
		if got := region.Right(l); got != right(l) {
			t.Errorf("Right of %v: %v", l, got)
		}
		x := api.Attr{Rights: rights, Key: key, Tagged: key%2 == 0}
		for _, l := range [][]api.Region{l, told(pages(l))} {
			all(t, l, from, to, x)
			all(t, l, from&63, to&63+1, x)
		}
	})
}
