package clock_test

import (
	"math"
	"slices"
	"testing"

	"framewarden/api"
	"framewarden/clock"
)

// far are numbers that are no places of a short list; some would be, were they
// cut to fewer bits.
var far = []int{math.MinInt, math.MinInt + 1, math.MinInt + 3, math.MinInt32, -1 << 40, -256, -255, -64, -3, -2, -1, 64, 65, 128, 255, 256, 257, 1 << 16, 1<<16 + 1, 1 << 31, 1 << 32, 1<<32 + 1, 1<<32 + 3, 1 << 62, math.MaxInt - 1, math.MaxInt}

// flags makes a list of a text: 1 is true.
func flags(s string) []bool {
	l := make([]bool, len(s))
	for i := range l {
		l[i] = s[i] == '1'
	}
	return l
}

// ofBits makes a list of the n lowest bits of a number.
func ofBits(bits, n int) []bool {
	l := make([]bool, n)
	for i := range l {
		l[i] = bits>>i&1 == 1
	}
	return l
}

// want holds Next against what must come, and looks whether what was handed in
// is as it was.
func want(t *testing.T, hand int, may, used []bool, at, next int, left []bool, err api.Errno) {
	t.Helper()
	wasMay, wasUsed := slices.Clone(may), slices.Clone(used)
	v, n, l, e := clock.Next(hand, may, used)
	if v != at || n != next || !slices.Equal(l, left) || e != err {
		t.Fatalf("Next of %d, %v, %v: %d, %d, %v, %d; want %d, %d, %v, %d", hand, may, used, v, n, l, e, at, next, left, err)
	}
	if !slices.Equal(may, wasMay) || !slices.Equal(used, wasUsed) {
		t.Fatalf("Next of %d, %v, %v changed these to %v, %v", hand, wasMay, wasUsed, may, used)
	}
}

// model holds Next against what comes of it by another way: the places from
// hand on are laid in a row, and what is told is the first one that is unused
// of those that may be told; or, if all are used, the first of them.
func model(t *testing.T, hand int, may, used []bool) {
	t.Helper()
	switch {
	case len(may) != len(used):
		want(t, hand, may, used, 0, 0, nil, api.ErrForm)
		return
	case hand < 0 || hand > len(may)-1:
		want(t, hand, may, used, 0, 0, nil, api.ErrRange)
		return
	}
	var row []int
	for i := range 2 * len(may) {
		if p := i % len(may); i >= hand && i < hand+len(may) && may[p] {
			row = append(row, p)
		}
	}
	if len(row) == 0 {
		want(t, hand, may, used, 0, 0, nil, api.ErrNone)
		return
	}
	first := slices.IndexFunc(row, func(p int) bool { return !used[p] })
	at, passed := row[0], row
	if first >= 0 {
		at, passed = row[first], row[:first]
	}
	left := make([]bool, len(used))
	for p := range left {
		left[p] = used[p] && !slices.Contains(passed, p)
	}
	want(t, hand, may, used, at, (at+1)%len(may), left, api.OK)
}

func TestTheDocumentsExample(t *testing.T) {
	want(t, 2, flags("101"), flags("001"), 0, 1, flags("000"), api.OK)
}

func TestTheFirstOneElseIsTold(t *testing.T) {
	may := flags("11111")
	want(t, 0, may, flags("00000"), 0, 1, flags("00000"), api.OK)
	want(t, 3, may, flags("00000"), 3, 4, flags("00000"), api.OK)
	want(t, 4, may, flags("00000"), 4, 0, flags("00000"), api.OK)
	want(t, 1, may, flags("01100"), 3, 4, flags("00000"), api.OK)
	want(t, 2, may, flags("01100"), 3, 4, flags("01000"), api.OK)
	want(t, 3, may, flags("11111"), 3, 4, flags("00000"), api.OK)
	want(t, 3, may, flags("10011"), 1, 2, flags("00000"), api.OK)
}

// TestWhatLiesBehindStaysUsed looks at those places to which the hand did not
// come.
func TestWhatLiesBehindStaysUsed(t *testing.T) {
	want(t, 1, flags("11111"), flags("11011"), 2, 3, flags("10011"), api.OK)
	want(t, 4, flags("11111"), flags("10111"), 1, 2, flags("00110"), api.OK)
	want(t, 2, flags("11111"), flags("11011"), 2, 3, flags("11011"), api.OK)
}

// TestWhatMayNotStaysUsed has places that may not be told be passed over, once
// and twice, and be used as they were.
func TestWhatMayNotStaysUsed(t *testing.T) {
	want(t, 0, flags("0010"), flags("1101"), 2, 3, flags("1101"), api.OK)
	want(t, 0, flags("0010"), flags("1111"), 2, 3, flags("1101"), api.OK)
	want(t, 3, flags("0010"), flags("1111"), 2, 3, flags("1101"), api.OK)
	want(t, 1, flags("1000"), flags("0000"), 0, 1, flags("0000"), api.OK)
	want(t, 1, flags("0110"), flags("1110"), 1, 2, flags("1000"), api.OK)
}

func TestOnePlace(t *testing.T) {
	want(t, 0, flags("1"), flags("0"), 0, 0, flags("0"), api.OK)
	want(t, 0, flags("1"), flags("1"), 0, 0, flags("0"), api.OK)
	want(t, 0, flags("0"), flags("0"), 0, 0, nil, api.ErrNone)
	want(t, 0, flags("0"), flags("1"), 0, 0, nil, api.ErrNone)
}

func TestListsThatAreNotAsLong(t *testing.T) {
	for n := range 5 {
		for m := range 5 {
			if n == m {
				continue
			}
			// What else is wrong is told only of lists that are as long.
			for _, hand := range append([]int{0, 1, 2, 3, 4, 5}, far...) {
				want(t, hand, ofBits(-1, n), ofBits(0, m), 0, 0, nil, api.ErrForm)
				want(t, hand, ofBits(0, n), ofBits(-1, m), 0, 0, nil, api.ErrForm)
			}
		}
	}
	want(t, 0, nil, flags("0"), 0, 0, nil, api.ErrForm)
	want(t, 0, flags("1"), nil, 0, 0, nil, api.ErrForm)
}

func TestHandsThatAreNoPlaces(t *testing.T) {
	for n := range 65 {
		for _, hand := range append([]int{n, n + 1, 2 * n, -n - 1}, far...) {
			if hand >= 0 && hand < n {
				continue
			}
			want(t, hand, ofBits(-1, n), ofBits(0, n), 0, 0, nil, api.ErrRange)
			// That none may be told is told only of a hand that is a place.
			want(t, hand, ofBits(0, n), ofBits(-1, n), 0, 0, nil, api.ErrRange)
		}
	}
}

func TestNilIsAListWithoutEntries(t *testing.T) {
	for _, may := range [][]bool{nil, {}, flags("11")[:0]} {
		for _, used := range [][]bool{nil, {}, flags("00")[:0]} {
			for _, hand := range append([]int{0, 1}, far...) {
				want(t, hand, may, used, 0, 0, nil, api.ErrRange)
			}
		}
	}
}

func TestNoneMayBeTold(t *testing.T) {
	for n := 1; n <= 64; n++ {
		for hand := range n {
			want(t, hand, ofBits(0, n), ofBits(hand*0x5b5b5b5b, n), 0, 0, nil, api.ErrNone)
		}
	}
}

// TestAllLists holds Next, of all lists of at most six places and of hands on
// either side of these, against the model.
func TestAllLists(t *testing.T) {
	for n := range 7 {
		for bits := range 1 << n {
			for more := range 1 << n {
				for hand := -2; hand <= n+2; hand++ {
					model(t, hand, ofBits(bits, n), ofBits(more, n))
				}
			}
		}
	}
}

// TestAllFrames has one place of 64 be unlike all the others.
func TestAllFrames(t *testing.T) {
	for hand := range api.Frames {
		for p := range api.Frames {
			model(t, hand, ofBits(1<<p, 64), ofBits(0, 64))
			model(t, hand, ofBits(1<<p, 64), ofBits(-1, 64))
			model(t, hand, ofBits(-1, 64), ofBits(^(1<<p), 64))
			model(t, hand, ofBits(^(1<<p), 64), ofBits(-1, 64))
		}
	}
}

// turns answers what is told in so many calls, each of which goes on where the
// last one ended; use says what is used ahead of each of them.
func turns(t *testing.T, may []bool, calls int, use func(used []bool)) []int {
	t.Helper()
	var told []int
	hand, used := 0, make([]bool, len(may))
	for range calls {
		use(used)
		at, next, left, e := clock.Next(hand, may, used)
		if e != api.OK {
			t.Fatalf("Next of %d, %v, %v: %d", hand, may, used, e)
		}
		told = append(told, at)
		hand, used = next, left
	}
	return told
}

// TestEverybodysTurnComes goes round three times: whether nothing is used ever,
// or all is used ahead of each call, all places that may are told in turn.
func TestEverybodysTurnComes(t *testing.T) {
	ways := []func([]bool){
		func(used []bool) {},
		func(used []bool) {
			for i := range used {
				used[i] = true
			}
		},
	}
	for bits := 1; bits < 1<<8; bits++ {
		may := ofBits(bits, 8)
		var must []int
		for p, ok := range may {
			if ok {
				must = append(must, p)
			}
		}
		for _, use := range ways {
			if told := turns(t, may, 3*len(must), use); !slices.Equal(told, slices.Repeat(must, 3)) {
				t.Fatalf("of %v the places %v are told, one behind the other", may, told)
			}
		}
	}
}

// TestWhatIsUsedIsSpared uses one place ahead of each call: it is not told as
// long as there is another one that may be.
func TestWhatIsUsedIsSpared(t *testing.T) {
	for p := range 5 {
		told := turns(t, flags("11111"), 50, func(used []bool) { used[p] = true })
		if slices.Contains(told, p) {
			t.Errorf("place %d is used always, and is among those told: %v", p, told)
		}
	}
}

func TestOneListForBoth(t *testing.T) {
	l := flags("0101")
	want(t, 0, l, l, 1, 2, flags("0000"), api.OK)
	want(t, 2, l, l, 3, 0, flags("0000"), api.OK)
	whole := flags("110100")
	want(t, 0, whole[:4], whole[1:5], 1, 2, flags("0010"), api.OK)
}

// TestSpareRoomIsNeitherSeenNorChanged hands in beginnings of lists, whose ends
// would be told.
func TestSpareRoomIsNeitherSeenNorChanged(t *testing.T) {
	may, used := flags("010011111"), flags("011100001")
	wasMay, wasUsed := slices.Clone(may), slices.Clone(used)
	for n := range len(may) + 1 {
		for hand := -1; hand <= n+1; hand++ {
			model(t, hand, may[:n], used[:n])
			model(t, hand, may[:n:n], used[:n:n])
			model(t, hand, may[:n], used[:n/2])
		}
	}
	if !slices.Equal(may, wasMay) || !slices.Equal(used, wasUsed) {
		t.Errorf("%v, %v were changed to %v, %v", wasMay, wasUsed, may, used)
	}
}

// TestAnswersAreNewMemory changes what was answered, with its spare room, and
// what was handed in, also where nothing that is used is another one then.
func TestAnswersAreNewMemory(t *testing.T) {
	for _, s := range []string{"0000", "1000", "0111", "1111"} {
		may, used := flags("1111"), flags(s)
		whole := append(used, true, true)
		_, _, first, _ := clock.Next(0, may, whole[:4])
		must := slices.Clone(first)
		_, _, second, _ := clock.Next(0, may, whole[:4])
		for i := range second[:cap(second)] {
			second[:cap(second)][i] = true
		}
		if !slices.Equal(first, must) || !slices.Equal(whole, append(flags(s), true, true)) {
			t.Errorf("of used %s, answers share memory", s)
		}
		for i := range whole {
			whole[i] = true
		}
		clear(may)
		if !slices.Equal(first, must) {
			t.Errorf("of used %s, the answer shares memory with what was handed in", s)
		}
	}
}

// TestLongLists has the hand go round nearly twice.
func TestLongLists(t *testing.T) {
	const n = 1 << 20
	may, used := make([]bool, n), make([]bool, n)
	for i := range used {
		used[i] = true
	}
	may[41] = true
	left := slices.Clone(used)
	left[41] = false
	at, next, got, e := clock.Next(42, may, used)
	if at != 41 || next != 42 || !slices.Equal(got, left) || e != api.OK {
		t.Errorf("Next: %d, %d, %d; want 41, 42, %d", at, next, e, api.OK)
	}
	at, next, got, e = clock.Next(n-1, used, used)
	if at != n-1 || next != 0 || slices.Contains(got, true) || len(got) != n || e != api.OK {
		t.Errorf("Next: %d, %d, %d; want %d, 0, %d", at, next, e, n-1, api.OK)
	}
}

// FuzzNext makes lists of bytes, as long as each other and not, and holds Next
// against the model.
func FuzzNext(f *testing.F) {
	f.Add(2, []byte{1, 0, 1}, []byte{0, 0, 1})
	f.Add(0, []byte{1, 1}, []byte{1})
	f.Add(-1, []byte{}, []byte{})
	f.Add(math.MinInt, []byte{0, 0}, []byte{0, 1})
	f.Fuzz(func(t *testing.T, hand int, a, b []byte) {
		odd := func(text []byte) []bool {
			l := make([]bool, len(text))
			for i, c := range text {
				l[i] = c%2 == 1
			}
			return l
		}
		may, used := odd(a), odd(b)
		model(t, hand, may, used)
		n := min(len(may), len(used))
		model(t, hand, may[:n], used[:n])
		if n > 0 {
			model(t, int(uint(hand)%uint(n)), may[:n], used[:n])
		}
	})
}
