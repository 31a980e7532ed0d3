package buddy_test

import (
	"math"
	"slices"
	"testing"

	"framewarden/api"
	"framewarden/buddy"
)

type blocks = []api.Block

// far are numbers that are neither frames nor orders.
var far = []int{math.MinInt, math.MinInt + 1, math.MinInt32, -64, -2, -1, 64, 65, 128, 1 << 32, 1 << 62, math.MaxInt - 63, math.MaxInt - 1, math.MaxInt}

// wrong are lists that are not Right, by what is wrong with them.
var wrong = map[string]blocks{
	"order below 0":             {{At: 0, Order: -1}},
	"order above MaxOrder":      {{At: 0, Order: 7}},
	"place below 0":             {{At: -1, Order: 0}},
	"multiple below 0":          {{At: -32, Order: 5}},
	"no frame":                  {{At: 64, Order: 0}},
	"behind the last frame":     {{At: 64, Order: 6}},
	"not at a multiple":         {{At: 3, Order: 1}},
	"half a multiple":           {{At: 16, Order: 5}},
	"all frames, not at 0":      {{At: 32, Order: 6}},
	"wrong behind a right one":  {{At: 0, Order: 0}, {At: 3, Order: 1}},
	"wrong ahead of right":      {{At: 1, Order: 1}, {At: 8, Order: 0}},
	"falling":                   {{At: 2, Order: 0}, {At: 0, Order: 0}},
	"falling at the end":        {{At: 0, Order: 0}, {At: 8, Order: 0}, {At: 4, Order: 0}},
	"twice":                     {{At: 5, Order: 0}, {At: 5, Order: 0}},
	"all frames twice":          {{At: 0, Order: 6}, {At: 0, Order: 6}},
	"a part of the one ahead":   {{At: 4, Order: 2}, {At: 6, Order: 0}},
	"last frame of one ahead":   {{At: 4, Order: 2}, {At: 7, Order: 0}},
	"first frame, small ahead":  {{At: 4, Order: 0}, {At: 4, Order: 2}},
	"first frame, large ahead":  {{At: 4, Order: 2}, {At: 4, Order: 0}},
	"buddies of one frame":      {{At: 0, Order: 0}, {At: 1, Order: 0}},
	"buddies of half of all":    {{At: 0, Order: 5}, {At: 32, Order: 5}},
	"buddies at the end":        {{At: 0, Order: 0}, {At: 56, Order: 2}, {At: 60, Order: 2}},
	"buddies ahead of a third":  {{At: 6, Order: 0}, {At: 7, Order: 0}, {At: 8, Order: 0}},
	"buddies, the second first": {{At: 1, Order: 0}, {At: 0, Order: 0}},
}

// right are lists of what is free.
var right = []blocks{
	nil,
	{},
	{{At: 0, Order: 6}},
	{{At: 0, Order: 0}},
	{{At: 63, Order: 0}},
	{{At: 32, Order: 5}},
	{{At: 1, Order: 0}, {At: 2, Order: 0}},
	{{At: 2, Order: 1}, {At: 4, Order: 1}},
	{{At: 0, Order: 0}, {At: 2, Order: 1}},
	{{At: 0, Order: 1}, {At: 2, Order: 0}},
	{{At: 0, Order: 0}, {At: 2, Order: 0}},
	{{At: 16, Order: 4}, {At: 32, Order: 4}},
	{{At: 16, Order: 4}, {At: 32, Order: 5}},
	{{At: 1, Order: 0}, {At: 2, Order: 1}, {At: 4, Order: 2}, {At: 8, Order: 3}, {At: 16, Order: 4}, {At: 32, Order: 5}},
}

// freeOf answers the list of those frames whose bits are set, found from all
// frames downward: what is not wholly free is halved.
func freeOf(set uint64) blocks {
	var out blocks
	var look func(at, order int)
	look = func(at, order int) {
		bits := bitsOf(api.Block{At: at, Order: order})
		switch {
		case set&bits == bits:
			out = append(out, api.Block{At: at, Order: order})
		case set&bits != 0:
			look(at, order-1)
			look(at+1<<(order-1), order-1)
		}
	}
	look(0, api.MaxOrder)
	return out
}

// bitsOf answers a block's frames as bits.
func bitsOf(b api.Block) uint64 {
	var out uint64
	for i := range 1 << b.Order {
		out |= 1 << (b.At + i)
	}
	return out
}

// firstOf answers where a block of that order is taken from those frames: of
// the least order that has a free block, the first one.
func firstOf(set uint64, order int) (int, bool) {
	for o := order; o <= api.MaxOrder; o++ {
		for _, b := range freeOf(set) {
			if b.Order == o {
				return b.At, true
			}
		}
	}
	return 0, false
}

// sets answers many sets of frames, dense ones and sparse ones.
func sets() []uint64 {
	out := []uint64{0, 1, 1 << 63, math.MaxUint64, math.MaxUint64 - 1, math.MaxUint64 >> 1, 0xffffffff, 0x5555555555555555, 0x6666666666666666}
	x := uint64(0x9e3779b97f4a7c15)
	next := func() uint64 {
		x ^= x << 13
		x ^= x >> 7
		x ^= x << 17
		return x
	}
	for range 300 {
		a, b, c := next(), next(), next()
		out = append(out, a, a&b, a|b, a&b&c, a|b|c, ^(1 << (a % 64)), ^(0xf << (a % 60)))
	}
	return out
}

// allBlocks answers every block there is.
func allBlocks() blocks {
	var out blocks
	for o := 0; o <= api.MaxOrder; o++ {
		for at := 0; at < api.Frames; at += 1 << o {
			out = append(out, api.Block{At: at, Order: o})
		}
	}
	return out
}

// noBlocks answers what is no block, for each of the reasons.
func noBlocks() blocks {
	out := blocks{{At: 1, Order: 1}, {At: 63, Order: 1}, {At: 2, Order: 2}, {At: 16, Order: 5}, {At: 48, Order: 5}, {At: 1, Order: 6}, {At: 32, Order: 6}, {At: 0, Order: 7}, {At: 64, Order: 7}, {At: 0, Order: 63}}
	for _, x := range far {
		out = append(out, api.Block{At: 0, Order: x}, api.Block{At: x, Order: x})
		for o := 0; o <= api.MaxOrder; o++ {
			out = append(out, api.Block{At: x, Order: o})
		}
	}
	return out
}

func wantTake(t *testing.T, l blocks, order int, want blocks, at int) {
	t.Helper()
	m, a, e := buddy.Take(l, order)
	if !slices.Equal(m, want) || a != at || e != api.OK {
		t.Errorf("Take of %v, order %d: %v, %d, %d; want %v, %d, 0", l, order, m, a, e, want, at)
	}
}

func wantNoTake(t *testing.T, l blocks, order int, want api.Errno) {
	t.Helper()
	m, a, e := buddy.Take(l, order)
	if len(m) != 0 || a != 0 || e != want {
		t.Errorf("Take of %v, order %d: %v, %d, %d; want none, 0, %d", l, order, m, a, e, want)
	}
}

func wantGive(t *testing.T, l blocks, b api.Block, want blocks) {
	t.Helper()
	m, e := buddy.Give(l, b)
	if !slices.Equal(m, want) || e != api.OK {
		t.Errorf("Give of %v to %v: %v, %d; want %v, 0", b, l, m, e, want)
	}
}

func wantNoGive(t *testing.T, l blocks, b api.Block, want api.Errno) {
	t.Helper()
	m, e := buddy.Give(l, b)
	if len(m) != 0 || e != want {
		t.Errorf("Give of %v to %v: %v, %d; want none, %d", b, l, m, e, want)
	}
}

func TestNewIsOneBlockOfAllFrames(t *testing.T) {
	if l := buddy.New(); !slices.Equal(l, blocks{{At: 0, Order: 6}}) {
		t.Errorf("New: %v", l)
	}
}

func TestNewIsNewEachTime(t *testing.T) {
	buddy.New()[0] = api.Block{At: 5, Order: 1}
	if l := buddy.New(); !slices.Equal(l, blocks{{At: 0, Order: 6}}) {
		t.Errorf("what is written into one New is in the next one: %v", l)
	}
}

func TestRight(t *testing.T) {
	for _, l := range right {
		if !buddy.Right(l) {
			t.Errorf("Right of %v: false", l)
		}
	}
	for why, l := range wrong {
		if buddy.Right(l) {
			t.Errorf("Right of %v: true (%s)", l, why)
		}
	}
}

func TestRightOfOneBlock(t *testing.T) {
	for _, b := range allBlocks() {
		if !buddy.Right(blocks{b}) {
			t.Errorf("Right of %v alone: false", b)
		}
	}
	for _, b := range noBlocks() {
		for _, l := range []blocks{{b}, {b, {At: 63}}, {{At: 0}, b}} {
			if buddy.Right(l) {
				t.Errorf("Right of %v: true", l)
			}
		}
	}
}

func TestRightOfTwoBlocks(t *testing.T) {
	for _, a := range allBlocks() {
		for _, b := range allBlocks() {
			want := a.At < b.At && slices.Equal(freeOf(bitsOf(a)|bitsOf(b)), blocks{a, b})
			if got := buddy.Right(blocks{a, b}); got != want {
				t.Errorf("Right of %v, %v: %v", a, b, got)
			}
		}
	}
}

func TestRightOfManySets(t *testing.T) {
	for _, set := range sets() {
		if l := freeOf(set); !buddy.Right(l) {
			t.Errorf("Right of %v: false", l)
		}
	}
}

func TestRightOfSinglesThatAreNotBuddies(t *testing.T) {
	var l blocks
	for at := 1; at < 63; at += 4 {
		l = append(l, api.Block{At: at}, api.Block{At: at + 1})
	}
	if !buddy.Right(l) {
		t.Errorf("Right of %v: false", l)
	}
	if buddy.Right(append(l, api.Block{At: 63})) {
		t.Error("Right with frame 63, the buddy of the last one, behind: true")
	}
}

func TestRightOfLongLists(t *testing.T) {
	if buddy.Right(make(blocks, 1<<20)) {
		t.Error("Right of frame 0 again and again: true")
	}
}

func TestTakePartsABlock(t *testing.T) {
	l := buddy.New()
	wantTake(t, l, 6, nil, 0)
	wantTake(t, l, 5, blocks{{At: 32, Order: 5}}, 0)
	wantTake(t, l, 4, blocks{{At: 16, Order: 4}, {At: 32, Order: 5}}, 0)
	wantTake(t, l, 0, blocks{{At: 1, Order: 0}, {At: 2, Order: 1}, {At: 4, Order: 2}, {At: 8, Order: 3}, {At: 16, Order: 4}, {At: 32, Order: 5}}, 0)
	wantTake(t, blocks{{At: 40, Order: 3}}, 1, blocks{{At: 42, Order: 1}, {At: 44, Order: 2}}, 40)
}

func TestTakeHasTheLeastOrderThatIsEnough(t *testing.T) {
	l := blocks{{At: 0, Order: 4}, {At: 16, Order: 1}, {At: 24, Order: 3}, {At: 32, Order: 5}}
	wantTake(t, l, 0, blocks{{At: 0, Order: 4}, {At: 17, Order: 0}, {At: 24, Order: 3}, {At: 32, Order: 5}}, 16)
	wantTake(t, l, 1, blocks{{At: 0, Order: 4}, {At: 24, Order: 3}, {At: 32, Order: 5}}, 16)
	wantTake(t, l, 2, blocks{{At: 0, Order: 4}, {At: 16, Order: 1}, {At: 28, Order: 2}, {At: 32, Order: 5}}, 24)
	wantTake(t, l, 3, blocks{{At: 0, Order: 4}, {At: 16, Order: 1}, {At: 32, Order: 5}}, 24)
	wantTake(t, l, 4, blocks{{At: 16, Order: 1}, {At: 24, Order: 3}, {At: 32, Order: 5}}, 0)
	wantTake(t, l, 5, blocks{{At: 0, Order: 4}, {At: 16, Order: 1}, {At: 24, Order: 3}}, 32)
	wantNoTake(t, l, 6, api.ErrFull)
}

func TestTakeHasTheLeastPlaceOfSeveral(t *testing.T) {
	wantTake(t, blocks{{At: 5}, {At: 10}, {At: 20}}, 0, blocks{{At: 10}, {At: 20}}, 5)
	wantTake(t, blocks{{At: 0}, {At: 4, Order: 2}, {At: 16, Order: 2}}, 1, blocks{{At: 0}, {At: 6, Order: 1}, {At: 16, Order: 2}}, 4)
}

func TestTakeWhereNothingIsLargeEnough(t *testing.T) {
	for o := 0; o <= 6; o++ {
		wantNoTake(t, nil, o, api.ErrFull)
		wantNoTake(t, blocks{}, o, api.ErrFull)
	}
	wantNoTake(t, blocks{{At: 1}, {At: 2}}, 1, api.ErrFull)
	wantNoTake(t, blocks{{At: 32, Order: 5}}, 6, api.ErrFull)
}

func TestTakeOfManySets(t *testing.T) {
	for _, set := range sets() {
		l := freeOf(set)
		for o := 0; o <= api.MaxOrder; o++ {
			at, ok := firstOf(set, o)
			if !ok {
				wantNoTake(t, l, o, api.ErrFull)
				continue
			}
			wantTake(t, l, o, freeOf(set&^bitsOf(api.Block{At: at, Order: o})), at)
		}
	}
}

func TestTakeOfOrdersOutOfRange(t *testing.T) {
	for _, l := range right {
		for _, o := range append([]int{7, 8, 63}, far...) {
			wantNoTake(t, l, o, api.ErrRange)
		}
	}
}

func TestListsThatAreNotRight(t *testing.T) {
	for _, l := range wrong {
		for _, o := range append([]int{0, 3, 6, 7}, far...) {
			wantNoTake(t, l, o, api.ErrForm)
		}
		for _, b := range slices.Concat(allBlocks(), noBlocks()) {
			wantNoGive(t, l, b, api.ErrForm)
		}
	}
}

func TestGiveJoinsBuddies(t *testing.T) {
	wantGive(t, nil, api.Block{At: 8, Order: 1}, blocks{{At: 8, Order: 1}})
	wantGive(t, blocks{{At: 16}}, api.Block{At: 17}, blocks{{At: 16, Order: 1}})
	wantGive(t, blocks{{At: 17}}, api.Block{At: 16}, blocks{{At: 16, Order: 1}})
	wantGive(t, blocks{{At: 0, Order: 5}}, api.Block{At: 32, Order: 5}, buddy.New())
	wantGive(t, blocks{{At: 1, Order: 0}, {At: 2, Order: 1}, {At: 4, Order: 2}, {At: 8, Order: 3}, {At: 16, Order: 4}, {At: 32, Order: 5}}, api.Block{At: 0}, buddy.New())
	wantGive(t, blocks{{At: 0, Order: 5}, {At: 32, Order: 4}, {At: 48, Order: 3}, {At: 56, Order: 2}, {At: 60, Order: 1}, {At: 62, Order: 0}}, api.Block{At: 63}, buddy.New())
	wantGive(t, nil, api.Block{At: 0, Order: 6}, buddy.New())
}

func TestGiveJoinsNoOthers(t *testing.T) {
	wantGive(t, blocks{{At: 1}}, api.Block{At: 2}, blocks{{At: 1}, {At: 2}})
	wantGive(t, blocks{{At: 2}}, api.Block{At: 1}, blocks{{At: 1}, {At: 2}})
	wantGive(t, blocks{{At: 0}}, api.Block{At: 2}, blocks{{At: 0}, {At: 2}})
	wantGive(t, blocks{{At: 0}}, api.Block{At: 2, Order: 1}, blocks{{At: 0}, {At: 2, Order: 1}})
	wantGive(t, blocks{{At: 2, Order: 1}}, api.Block{At: 4, Order: 1}, blocks{{At: 2, Order: 1}, {At: 4, Order: 1}})
	wantGive(t, blocks{{At: 0}, {At: 2}, {At: 63}}, api.Block{At: 32, Order: 2}, blocks{{At: 0}, {At: 2}, {At: 32, Order: 2}, {At: 63}})
}

func TestGiveOfWhatIsFree(t *testing.T) {
	l := blocks{{At: 4, Order: 2}, {At: 12}}
	for _, b := range []api.Block{{At: 4}, {At: 5}, {At: 7}, {At: 6, Order: 1}, {At: 4, Order: 2}, {At: 0, Order: 3}, {At: 0, Order: 6}, {At: 12}, {At: 12, Order: 1}, {At: 8, Order: 3}} {
		wantNoGive(t, l, b, api.ErrHeld)
	}
	wantGive(t, l, api.Block{At: 3}, blocks{{At: 3}, {At: 4, Order: 2}, {At: 12}})
	wantGive(t, l, api.Block{At: 8}, blocks{{At: 4, Order: 2}, {At: 8}, {At: 12}})
}

func TestGiveOfManySets(t *testing.T) {
	for _, set := range sets() {
		l := freeOf(set)
		for _, b := range allBlocks() {
			if set&bitsOf(b) != 0 {
				wantNoGive(t, l, b, api.ErrHeld)
				continue
			}
			wantGive(t, l, b, freeOf(set|bitsOf(b)))
		}
	}
}

func TestGiveOfWhatIsNoBlock(t *testing.T) {
	for _, l := range right {
		for _, b := range noBlocks() {
			wantNoGive(t, l, b, api.ErrRange)
		}
	}
}

func TestWhatWasTakenAndGivenBackIsAsItWas(t *testing.T) {
	for _, set := range sets() {
		l := freeOf(set)
		for o := 0; o <= api.MaxOrder; o++ {
			if m, at, e := buddy.Take(l, o); e == api.OK {
				wantGive(t, m, api.Block{At: at, Order: o}, l)
			}
		}
	}
}

func TestNobodyGetsWhatSomebodyHas(t *testing.T) {
	l, held := buddy.New(), uint64(0)
	for i := 0; ; i++ {
		o := i * 5 % 3
		m, at, e := buddy.Take(l, o)
		if e != api.OK {
			break
		}
		bits := bitsOf(api.Block{At: at, Order: o})
		if held&bits != 0 {
			t.Fatalf("a block of order %d at %d is held already", o, at)
		}
		l, held = m, held|bits
	}
	if !slices.Equal(l, freeOf(^held)) {
		t.Errorf("free is %v; want %v", l, freeOf(^held))
	}
}

func TestSpareRoomIsNotThere(t *testing.T) {
	l := blocks{{At: 8}, {At: 9}, {At: 9}, {At: 3, Order: 1}}[:1]
	if !buddy.Right(l) {
		t.Error("Right of one block with others behind it: false")
	}
	wantTake(t, l, 0, nil, 8)
	wantNoTake(t, l, 1, api.ErrFull)
	wantGive(t, l, api.Block{At: 9}, blocks{{At: 8, Order: 1}})
}

func TestWhatIsHandedInStaysAsItIs(t *testing.T) {
	for _, set := range sets()[:60] {
		l := freeOf(set)
		whole := append(slices.Clone(l), api.Block{At: -1, Order: -2}, api.Block{At: -3, Order: -4}, api.Block{At: -5, Order: -6}, api.Block{At: -7, Order: -8}, api.Block{At: -9, Order: -10}, api.Block{At: -11, Order: -12})
		kept := slices.Clone(whole)
		room := whole[:len(l)]
		buddy.Right(room)
		for o := -1; o <= 7; o++ {
			buddy.Take(room, o)
		}
		for _, b := range append(allBlocks(), api.Block{At: 1, Order: 1}) {
			buddy.Give(room, b)
		}
		if !slices.Equal(whole, kept) {
			t.Errorf("the list, or the room behind it, was changed: %v; was %v", whole, kept)
		}
	}
}

// apart: neither a change of the list is in the answer, nor the other way
// round, up to the end of the room behind each.
func apart(t *testing.T, l, m blocks) {
	t.Helper()
	was := slices.Clone(m)
	for i := range l[:cap(l)] {
		l[:cap(l)][i] = api.Block{At: -1, Order: -1}
	}
	if !slices.Equal(m, was) {
		t.Errorf("a change of the list is in the answer: %v; was %v", m, was)
	}
	for i := range m[:cap(m)] {
		m[:cap(m)][i] = api.Block{At: -2, Order: -2}
	}
	for _, b := range l[:cap(l)] {
		if b.At != -1 {
			t.Errorf("a change of the answer is in the list, or behind it: %v", l)
		}
	}
}

func TestAnswersAreNewMemory(t *testing.T) {
	list := func() blocks {
		return slices.Grow(blocks{{At: 0}, {At: 2}, {At: 4, Order: 2}, {At: 63}}, 20)
	}
	for o := 0; o <= 2; o++ {
		l := list()
		m, _, _ := buddy.Take(l, o)
		apart(t, l, m)
	}
	for _, b := range []api.Block{{At: 1}, {At: 3}, {At: 8, Order: 3}, {At: 62}} {
		l := list()
		m, _ := buddy.Give(l, b)
		apart(t, l, m)
	}
}
