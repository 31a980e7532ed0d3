package pool_test

import (
	"math"
	"slices"
	"testing"

	"framewarden/api"
	"framewarden/pool"
)

type blocks = []api.Block

// far are numbers that are no frames; some would be, were they cut to fewer
// bits.
var far = []int{math.MinInt, math.MinInt + 1, math.MinInt + 63, math.MinInt32, -1 << 40, -256, -255, -64, -63, -2, -1, 64, 65, 66, 128, 255, 256, 257, 1 << 16, 1<<16 + 1, 1 << 31, 1 << 32, 1<<32 + 1, 1<<32 + 63, 1 << 62, math.MaxInt - 63, math.MaxInt - 1, math.MaxInt}

// freeOf answers the blocks of those frames that nobody means, found from all
// frames downward: what is not wholly free is halved.
func freeOf(refs [64]int) blocks {
	var out blocks
	var look func(at, order int)
	look = func(at, order int) {
		free := 0
		for _, x := range refs[at : at+1<<order] {
			if x == 0 {
				free++
			}
		}
		switch {
		case free == 1<<order:
			out = append(out, api.Block{At: at, Order: order})
		case free > 0:
			look(at, order-1)
			look(at+1<<(order-1), order-1)
		}
	}
	look(0, 6)
	return out
}

// poolOf answers the pool in which frames are meant so often.
func poolOf(refs [64]int) api.Pool {
	return api.Pool{Free: freeOf(refs), Refs: refs}
}

// full answers the pool in which all frames are meant so often.
func full(refs int) api.Pool {
	return poolOf(all(refs))
}

func all(refs int) [64]int {
	var out [64]int
	for n := range out {
		out[n] = refs
	}
	return out
}

// changed answers the pool like p in which frame n is meant so often.
func changed(p api.Pool, n, refs int) api.Pool {
	p.Refs[n] = refs
	return poolOf(p.Refs)
}

// holding answers the pool in which frame n is meant so often, and none else.
func holding(n, refs int) api.Pool {
	return changed(api.Pool{}, n, refs)
}

func same(a, b api.Pool) bool {
	return slices.Equal(a.Free, b.Free) && a.Refs == b.Refs
}

// twin answers a pool like p that shares nothing with it.
func twin(p api.Pool) api.Pool {
	return api.Pool{Free: append(blocks(nil), p.Free...), Refs: p.Refs}
}

func wantRight(t *testing.T, p api.Pool, must bool) {
	t.Helper()
	was := twin(p)
	if got := pool.Right(p); got != must {
		t.Fatalf("Right of %v: %v", was, got)
	}
	if !same(p, was) {
		t.Fatalf("Right of %v changes what it is handed", was)
	}
}

func wantTake(t *testing.T, p, must api.Pool, n int, err api.Errno) {
	t.Helper()
	was := twin(p)
	got, k, e := pool.Take(p)
	if !same(got, must) || k != n || e != err {
		t.Fatalf("Take of %v: %v, %d, %d; want %v, %d, %d", was, got, k, e, must, n, err)
	}
	if !same(p, was) {
		t.Fatalf("Take of %v changes what it is handed", was)
	}
}

// wantTurn holds Share or Drop against what must come.
func wantTurn(t *testing.T, name string, turn func(api.Pool, int) (api.Pool, api.Errno), p api.Pool, n int, must api.Pool, err api.Errno) {
	t.Helper()
	was := twin(p)
	got, e := turn(p, n)
	if !same(got, must) || e != err {
		t.Fatalf("%s of %v, %d: %v, %d; want %v, %d", name, was, n, got, e, must, err)
	}
	if !same(p, was) {
		t.Fatalf("%s of %v, %d changes what it is handed", name, was, n)
	}
}

func wantShare(t *testing.T, p api.Pool, n int, must api.Pool, err api.Errno) {
	t.Helper()
	wantTurn(t, "Share", pool.Share, p, n, must, err)
}

func wantDrop(t *testing.T, p api.Pool, n int, must api.Pool, err api.Errno) {
	t.Helper()
	wantTurn(t, "Drop", pool.Drop, p, n, must, err)
}

// wantWrong holds all calls against what comes of a pool that is not Right.
func wantWrong(t *testing.T, p api.Pool, n int) {
	t.Helper()
	wantRight(t, p, false)
	wantTake(t, p, api.Pool{}, 0, api.ErrForm)
	wantShare(t, p, n, api.Pool{}, api.ErrForm)
	wantDrop(t, p, n, api.Pool{}, api.ErrForm)
}

// modelRight tells whether p is Right: of frames that are free there is only
// one list.
func modelRight(p api.Pool) bool {
	for _, x := range p.Refs {
		if x <= -1 {
			return false
		}
	}
	return slices.Equal(p.Free, freeOf(p.Refs))
}

// modelTake holds Take of p, which is Right, against what the chapters say of
// it: of the smallest blocks the first one is looked for.
func modelTake(t *testing.T, p api.Pool) {
	t.Helper()
	for order := range 7 {
		for _, b := range freeOf(p.Refs) {
			if b.Order == order {
				wantTake(t, p, changed(p, b.At, 1), b.At, api.OK)
				return
			}
		}
	}
	wantTake(t, p, api.Pool{}, 0, api.ErrFull)
}

// modelFrame holds Share and Drop of frame n of p, which is Right, against what
// the chapter says of them.
func modelFrame(t *testing.T, p api.Pool, n int) {
	t.Helper()
	for i, refs := range p.Refs {
		if i != n || refs == 0 {
			continue
		}
		if refs > 3 {
			wantShare(t, p, n, api.Pool{}, api.ErrFull)
		} else {
			wantShare(t, p, n, changed(p, n, refs+1), api.OK)
		}
		wantDrop(t, p, n, changed(p, n, refs-1), api.OK)
		return
	}
	wantShare(t, p, n, api.Pool{}, api.ErrNone)
	wantDrop(t, p, n, api.Pool{}, api.ErrNone)
}

// model holds all calls, with frame n, against what the chapter says of them.
func model(t *testing.T, p api.Pool, n int) {
	t.Helper()
	if !modelRight(p) {
		wantWrong(t, p, n)
		return
	}
	wantRight(t, p, true)
	modelTake(t, p)
	modelFrame(t, p, n)
}

// draws answers a rule that tells one number below n behind the other.
func draws() func(n int) int {
	x := uint64(0x9e3779b97f4a7c15)
	return func(n int) int {
		x ^= x << 13
		x ^= x >> 7
		x ^= x << 17
		return int((x >> 1) % uint64(n))
	}
}

// mixed answers a pool in which many frames are meant, or few.
func mixed(next func(int) int) api.Pool {
	var refs [64]int
	few := next(9)
	for n := range refs {
		if next(8) < few {
			refs[n] = 1 + next(5)
		}
	}
	return poolOf(refs)
}

func TestNewHasAllFramesFree(t *testing.T) {
	p := pool.New()
	if !same(p, api.Pool{Free: blocks{{At: 0, Order: 6}}}) {
		t.Fatalf("New: %v", p)
	}
	for n := range 64 {
		model(t, p, n)
	}
	p.Free[0].Order = 3
	p.Refs[0] = 7
	if again := pool.New(); !same(again, api.Pool{Free: blocks{{At: 0, Order: 6}}}) {
		t.Errorf("New, once more: %v", again)
	}
}

func TestTheDocumentsExample(t *testing.T) {
	p, n, e := pool.Take(pool.New())
	if n != 0 || e != api.OK {
		t.Fatalf("Take: %d, %d", n, e)
	}
	p, e = pool.Share(p, n)
	if e != api.OK || p.Refs[n] != 2 {
		t.Fatalf("Share: %v, %d", p, e)
	}
	p, e = pool.Drop(p, n)
	if e != api.OK || p.Refs[n] != 1 {
		t.Fatalf("Drop: %v, %d", p, e)
	}
	p, e = pool.Drop(p, n)
	if e != api.OK || !same(p, pool.New()) {
		t.Fatalf("Drop, once more: %v, %d", p, e)
	}
}

// TestBlocksToldByHand needs no rule of this file.
func TestBlocksToldByHand(t *testing.T) {
	one := api.Pool{Free: blocks{{At: 1, Order: 0}, {At: 2, Order: 1}, {At: 4, Order: 2}, {At: 8, Order: 3}, {At: 16, Order: 4}, {At: 32, Order: 5}}}
	one.Refs[0] = 1
	two := api.Pool{Free: one.Free[1:], Refs: one.Refs}
	two.Refs[1] = 1
	three := api.Pool{Free: append(blocks{{At: 3, Order: 0}}, one.Free[2:]...), Refs: two.Refs}
	three.Refs[2] = 1
	wantTake(t, pool.New(), one, 0, api.OK)
	wantTake(t, one, two, 1, api.OK)
	wantTake(t, two, three, 2, api.OK)
	wantDrop(t, three, 2, two, api.OK)
	wantDrop(t, two, 1, one, api.OK)
	wantDrop(t, one, 0, pool.New(), api.OK)
	late := api.Pool{Free: append(blocks{{At: 0, Order: 0}}, one.Free[1:]...)}
	late.Refs[1] = 1
	wantDrop(t, two, 0, late, api.OK)
	wantTake(t, late, two, 0, api.OK)
	wantDrop(t, late, 1, pool.New(), api.OK)
}

func TestTakeUntilAllAreMeant(t *testing.T) {
	p := pool.New()
	for i := range 64 {
		modelTake(t, p)
		q, n, e := pool.Take(p)
		if n != i || e != api.OK {
			t.Fatalf("Take number %d: %d, %d", i, n, e)
		}
		p = q
	}
	if !same(p, full(1)) {
		t.Fatalf("all are taken: %v", p)
	}
	wantTake(t, p, api.Pool{}, 0, api.ErrFull)
	for n := range 64 {
		modelFrame(t, p, n)
	}
}

func TestTakeOfTheSmallestBlock(t *testing.T) {
	refs := all(1)
	for _, n := range []int{0, 1, 2, 3, 10, 11, 20, 41} {
		refs[n] = 0
	}
	p := poolOf(refs)
	for _, must := range []int{20, 41, 10, 11, 0, 1, 2, 3} {
		modelTake(t, p)
		q, n, e := pool.Take(p)
		if n != must || e != api.OK {
			t.Fatalf("Take: %d, %d; want %d", n, e, must)
		}
		p = q
	}
	wantTake(t, p, api.Pool{}, 0, api.ErrFull)
}

func TestTakeOfTheLastFrame(t *testing.T) {
	for n := range 64 {
		for refs := 1; refs <= 5; refs++ {
			p := changed(full(refs), n, 0)
			wantTake(t, p, changed(full(refs), n, 1), n, api.OK)
		}
	}
}

func TestShareUntilAllMeanIt(t *testing.T) {
	for n := range 64 {
		p := changed(holding(7, 1), n, 1)
		for refs := 2; refs <= 4; refs++ {
			wantShare(t, p, n, changed(p, n, refs), api.OK)
			p, _ = pool.Share(p, n)
		}
		wantShare(t, p, n, api.Pool{}, api.ErrFull)
	}
}

func TestDropUntilItIsFree(t *testing.T) {
	for n := range 64 {
		p := holding(n, 4)
		for refs := 3; refs >= 1; refs-- {
			wantDrop(t, p, n, changed(p, n, refs), api.OK)
			p, _ = pool.Drop(p, n)
		}
		wantDrop(t, p, n, pool.New(), api.OK)
		p, _ = pool.Drop(p, n)
		wantDrop(t, p, n, api.Pool{}, api.ErrNone)
		wantShare(t, p, n, api.Pool{}, api.ErrNone)
	}
}

// TestMoreThanProcs has frames that are meant more often than Share would have
// it: they are Right.
func TestMoreThanProcs(t *testing.T) {
	for _, refs := range []int{4, 5, 6, 64, 255, 256, 257, 1 << 32, 1<<32 + 1, math.MaxInt - 1, math.MaxInt} {
		for _, n := range []int{0, 1, 31, 62, 63} {
			p := holding(n, refs)
			wantRight(t, p, true)
			wantShare(t, p, n, api.Pool{}, api.ErrFull)
			wantDrop(t, p, n, holding(n, refs-1), api.OK)
			modelTake(t, p)
		}
	}
}

func TestNumbersThatAreNoFrames(t *testing.T) {
	for _, p := range []api.Pool{pool.New(), full(1), full(4), full(5), holding(0, 4), holding(63, 1)} {
		for _, n := range far {
			wantShare(t, p, n, api.Pool{}, api.ErrNone)
			wantDrop(t, p, n, api.Pool{}, api.ErrNone)
		}
	}
}

func TestFramesThatNobodyMeans(t *testing.T) {
	for _, p := range []api.Pool{pool.New(), changed(full(4), 9, 0), changed(full(1), 63, 0), holding(3, 4)} {
		for n := range 64 {
			model(t, p, n)
		}
	}
}

// TestRefsBelowZero has frames that are meant less than never, in one of Free
// and in none.
func TestRefsBelowZero(t *testing.T) {
	for _, refs := range []int{-1, -2, -4, -255, -256, math.MinInt32, -1 << 32, math.MinInt + 1, math.MinInt} {
		for _, n := range []int{0, 1, 31, 32, 62, 63} {
			wantWrong(t, holding(n, refs), n)
			wantWrong(t, changed(full(1), n, refs), n)
			p := pool.New()
			p.Refs[n] = refs
			wantWrong(t, p, n)
			wantWrong(t, p, n^1)
		}
	}
}

// TestMeantThoughFree has frames that are in one of Free, and meant.
func TestMeantThoughFree(t *testing.T) {
	for n := range 64 {
		for _, refs := range []int{1, 2, 4, 5, math.MaxInt} {
			p := pool.New()
			p.Refs[n] = refs
			wantWrong(t, p, n)
			wantWrong(t, p, (n+1)%64)
			p = api.Pool{Free: blocks{{At: n, Order: 0}}, Refs: all(refs)}
			wantWrong(t, p, n)
		}
	}
}

// TestLostFrames has frames that nobody means, and that are in none of Free.
func TestLostFrames(t *testing.T) {
	wantWrong(t, api.Pool{}, 0)
	wantWrong(t, api.Pool{Free: blocks{}}, 63)
	for n := range 64 {
		p := full(1)
		p.Refs[n] = 0
		wantWrong(t, p, n)
		wantWrong(t, p, (n+1)%64)
	}
	half := api.Pool{Free: blocks{{At: 0, Order: 5}}}
	wantWrong(t, half, 40)
	for n := 32; n < 64; n++ {
		half.Refs[n] = 1
		model(t, half, n)
	}
	wantRight(t, half, true)
}

// TestFreeThatIsNotRight has the right frames, but not in a list that buddy
// takes for Right; or what are no blocks.
func TestFreeThatIsNotRight(t *testing.T) {
	for name, l := range map[string]blocks{
		"buddies":                  {{At: 0, Order: 5}, {At: 32, Order: 5}},
		"falling":                  {{At: 32, Order: 5}, {At: 0, Order: 5}},
		"twice":                    {{At: 0, Order: 6}, {At: 0, Order: 6}},
		"a part once more":         {{At: 0, Order: 6}, {At: 5, Order: 0}},
		"order above MaxOrder":     {{At: 0, Order: 7}},
		"order far above MaxOrder": {{At: 0, Order: 62}},
		"order beyond a shift":     {{At: 0, Order: 64}},
		"order below 0":            {{At: 0, Order: 6}, {At: 64, Order: -1}},
		"order at the lower end":   {{At: 0, Order: math.MinInt}},
		"order at the upper end":   {{At: 0, Order: math.MaxInt}},
		"behind the last frame":    {{At: 0, Order: 6}, {At: 64, Order: 0}},
		"ahead of the first frame": {{At: -1, Order: 0}, {At: 0, Order: 6}},
		"not at a multiple":        {{At: 32, Order: 6}},
		"place at the lower end":   {{At: math.MinInt, Order: 0}},
		"place at the upper end":   {{At: math.MaxInt, Order: 0}},
		"far below 0":              {{At: math.MinInt, Order: 6}},
	} {
		t.Run(name, func(t *testing.T) {
			for _, n := range []int{-1, 0, 5, 63, 64} {
				wantWrong(t, api.Pool{Free: l}, n)
				wantWrong(t, api.Pool{Free: l, Refs: all(1)}, n)
			}
		})
	}
	p := full(1)
	p.Refs[6], p.Refs[7] = 0, 0
	p.Free = blocks{{At: 6, Order: 0}, {At: 7, Order: 0}}
	wantWrong(t, p, 0)
	p.Free = blocks{{At: 7, Order: 0}, {At: 6, Order: 0}}
	wantWrong(t, p, 0)
	p.Free = blocks{{At: 6, Order: 1}}
	model(t, p, 0)
}

// TestErrFormIsToldFirst has frames, beside, of which something else is wrong.
func TestErrFormIsToldFirst(t *testing.T) {
	lost := full(4)
	lost.Refs[9] = 0
	for _, n := range append([]int{0, 9, 63}, far...) {
		wantWrong(t, lost, n)
		wantWrong(t, api.Pool{}, n)
	}
	below := full(4)
	below.Refs[63] = -1
	wantWrong(t, below, 0)
	wantWrong(t, below, 63)
}

// TestOneFrameMoreOrLess turns a Right pool into one that isn't, frame by
// frame.
func TestOneFrameMoreOrLess(t *testing.T) {
	next := draws()
	for range 20 {
		was := mixed(next)
		for n := range 64 {
			p := twin(was)
			if p.Refs[n] == 0 {
				p.Refs[n] = 1 + next(4)
			} else {
				p.Refs[n] = 0
			}
			wantWrong(t, p, n)
			p.Refs[n] = -1
			wantWrong(t, p, n)
			p.Refs[n] = was.Refs[n]
			model(t, p, n)
		}
		for i := range was.Free {
			p := twin(was)
			p.Free = slices.Delete(p.Free, i, i+1)
			wantWrong(t, p, was.Free[i].At)
		}
	}
}

func TestAllFramesOfManyPools(t *testing.T) {
	next := draws()
	for range 60 {
		p := mixed(next)
		for n := -1; n <= 64; n++ {
			model(t, p, n)
		}
	}
}

// TestAllSmallPools has all that may be of six frames, beside frames that are
// meant.
func TestAllSmallPools(t *testing.T) {
	for _, at := range []int{0, 30, 58} {
		for x := range 729 {
			refs := all(2)
			for i := range 6 {
				refs[at+i] = []int{0, 1, 4}[x%3]
				x /= 3
			}
			p := poolOf(refs)
			for i := range 6 {
				model(t, p, at+i)
			}
		}
	}
}

func TestNilAndEmptyAreTheSame(t *testing.T) {
	for _, free := range []blocks{nil, {}, make(blocks, 3)[:0]} {
		p := api.Pool{Free: free, Refs: all(3)}
		wantRight(t, p, true)
		wantTake(t, p, api.Pool{}, 0, api.ErrFull)
		wantShare(t, p, 5, changed(p, 5, 4), api.OK)
		wantDrop(t, p, 5, changed(p, 5, 2), api.OK)
		p.Refs[5] = 1
		wantDrop(t, p, 5, changed(p, 5, 0), api.OK)
	}
}

// scribble writes into a list, and into its spare room.
func scribble(l blocks) {
	for i := range l[:cap(l)] {
		l[:cap(l)][i].At ^= 0x55
		l[:cap(l)][i].Order ^= 0x55
	}
}

// turns are all calls that answer a pool, of one in which frames 0 and 9 are
// meant.
var turns = []func(api.Pool) api.Pool{
	func(p api.Pool) api.Pool { x, _, _ := pool.Take(p); return x },
	func(p api.Pool) api.Pool { x, _ := pool.Share(p, 9); return x },
	func(p api.Pool) api.Pool { x, _ := pool.Drop(p, 0); return x },
	func(p api.Pool) api.Pool { x, _ := pool.Drop(p, 9); return x },
}

func TestAnswersAreNewMemory(t *testing.T) {
	was := changed(holding(0, 1), 9, 2)
	for i, turn := range turns {
		p := twin(was)
		first, second := turn(p), turn(p)
		must := twin(first)
		if len(must.Free) == 0 {
			t.Fatalf("call %d: nothing is free", i)
		}
		scribble(second.Free)
		if !same(p, was) {
			t.Errorf("call %d: what is answered shares memory with what was handed in", i)
		}
		if !same(first, must) {
			t.Errorf("call %d: two answers share memory", i)
		}
		scribble(p.Free)
		if !same(first, must) {
			t.Errorf("call %d: the answer changes with what was handed in", i)
		}
	}
}

// TestSpareRoomIsNeitherSeenNorChanged hands in beginnings of lists: behind
// them lie blocks that would make them wrong.
func TestSpareRoomIsNeitherSeenNorChanged(t *testing.T) {
	next := draws()
	for range 40 {
		p := mixed(next)
		whole := append(slices.Clone(p.Free), blocks{{At: 0, Order: 6}, {At: -1, Order: 99}, {At: 5, Order: 0}}...)
		was := slices.Clone(whole)
		p.Free = whole[:len(p.Free)]
		for n := range 64 {
			model(t, p, n)
		}
		for _, turn := range []func() (api.Pool, api.Errno){
			func() (api.Pool, api.Errno) { x, _, e := pool.Take(p); return x, e },
			func() (api.Pool, api.Errno) { return pool.Share(p, next(64)) },
			func() (api.Pool, api.Errno) { return pool.Drop(p, next(64)) },
		} {
			got, _ := turn()
			_ = append(got.Free, api.Block{At: 77, Order: 77})
		}
		if !slices.Equal(whole, was) {
			t.Fatal("spare room was changed")
		}
	}
}

// TestWhatWasTakenAndDroppedIsAsItWas takes, shares and drops as often.
func TestWhatWasTakenAndDroppedIsAsItWas(t *testing.T) {
	next := draws()
	for range 50 {
		was := mixed(next)
		p, n, e := pool.Take(was)
		if e != api.OK {
			continue
		}
		for range 3 {
			p, _ = pool.Share(p, n)
		}
		wantShare(t, p, n, api.Pool{}, api.ErrFull)
		for range 4 {
			p, _ = pool.Drop(p, n)
		}
		if !same(p, was) {
			t.Errorf("taken of %v, and dropped: %v", was, p)
		}
	}
}

// TestLongWalk does many things one behind the other, each of which is held
// against the model.
func TestLongWalk(t *testing.T) {
	p, next := pool.New(), draws()
	for i := range 6000 {
		n := next(66) - 1
		model(t, p, n)
		var q api.Pool
		var e api.Errno
		// There are times at which more is taken, and times at which less is.
		switch x := next(10); {
		case x < 2+i/1000%2*4:
			q, _, e = pool.Take(p)
		case x < 7:
			q, e = pool.Share(p, n)
		default:
			q, e = pool.Drop(p, n)
		}
		if e == api.OK {
			p = q
		}
	}
}

// FuzzAll makes pools of bytes, Right ones and others, and holds all calls
// against the model.
func FuzzAll(f *testing.F) {
	f.Add([]byte{1, 0, 4}, []byte{}, 2)
	f.Add([]byte{}, []byte{0, 6}, 0)
	f.Add([]byte{255, 7, 0}, []byte{1, 0, 2, 1}, math.MaxInt)
	f.Add([]byte{0, 0, 0, 0, 1}, []byte{0, 2}, -1)
	f.Fuzz(func(t *testing.T, counts, list []byte, n int) {
		var refs [64]int
		for i, x := range counts {
			refs[i%64] = int(x) % 7
		}
		right := poolOf(refs)
		model(t, right, n)
		model(t, right, int(uint(n)%64))
		var free blocks
		for i := 0; i+1 < len(list); i += 2 {
			free = append(free, api.Block{At: int(int8(list[i])), Order: int(int8(list[i+1]))})
		}
		model(t, api.Pool{Free: free, Refs: refs}, n)
		for i, x := range counts {
			refs[i%64] = int(int8(x))
		}
		model(t, api.Pool{Free: right.Free, Refs: refs}, n)
		model(t, api.Pool{Free: free, Refs: refs}, n)
	})
}
