package swap_test

import (
	"bytes"
	"math"
	"slices"
	"testing"

	"framewarden/api"
	"framewarden/swap"
)

// far are numbers that are neither slots nor how often a slot may be meant;
// some would be, were they cut to fewer bits.
var far = []int{math.MinInt, math.MinInt + 1, math.MinInt + 3, math.MinInt32, -1 << 40, -256, -255, -64, -3, -2, -1, 64, 65, 128, 255, 256, 257, 1 << 16, 1<<16 + 1, 1 << 31, 1 << 32, 1<<32 + 1, 1<<32 + 3, 1 << 62, math.MaxInt - 1, math.MaxInt}

// some answers n bytes, other ones for each seed.
func some(seed, n int) []byte {
	out := make([]byte, n)
	for i := range out {
		out[i] = byte(seed*31 + i*7 + 1)
	}
	return out
}

// few answers n tags, other ones for each seed.
func few(seed, n int) []int {
	out := make([]int, n)
	for i := range out {
		out[i] = (seed + i*5) % 16
	}
	return out
}

// page is a slot with as much in it as Put lays there.
func page(seed, refs int) api.Slot {
	return api.Slot{Refs: refs, Bytes: some(seed, 64), Tags: few(seed, 4)}
}

// device answers slots that are meant so often, with a page in each of them,
// also in those that are not meant.
func device(refs ...int) []api.Slot {
	var d []api.Slot
	for i, n := range refs {
		d = append(d, page(i, n))
	}
	return d
}

func sameSlot(a, b api.Slot) bool {
	return a.Refs == b.Refs && bytes.Equal(a.Bytes, b.Bytes) && slices.Equal(a.Tags, b.Tags)
}

func same(a, b []api.Slot) bool { return slices.EqualFunc(a, b, sameSlot) }

// twin answers slots like those of d, that share nothing with them.
func twin(d []api.Slot) []api.Slot {
	out := make([]api.Slot, len(d))
	for i, s := range d {
		out[i] = api.Slot{Refs: s.Refs, Bytes: append([]byte(nil), s.Bytes...), Tags: append([]int(nil), s.Tags...)}
	}
	return out
}

// changed answers a twin of d that has another slot n.
func changed(d []api.Slot, n int, s api.Slot) []api.Slot {
	out := twin(d)
	out[n] = twin([]api.Slot{s})[0]
	return out
}

// refsOf is short for what tests tell of a device.
func refsOf(d []api.Slot) []int {
	var l []int
	for _, s := range d {
		l = append(l, s.Refs)
	}
	return l
}

func wantPut(t *testing.T, d []api.Slot, b []byte, tags []int, refs int, must []api.Slot, n int, err api.Errno) {
	t.Helper()
	was, wasBytes, wasTags := twin(d), slices.Clone(b), slices.Clone(tags)
	got, k, e := swap.Put(d, b, tags, refs)
	if !same(got, must) || k != n || e != err {
		t.Fatalf("Put of %d bytes, %d tags, refs %d into %v: %v, %d, %d; want %v, %d, %d", len(b), len(tags), refs, refsOf(was), got, k, e, must, n, err)
	}
	if !same(d, was) || !bytes.Equal(b, wasBytes) || !slices.Equal(tags, wasTags) {
		t.Fatalf("Put into %v changes what it is handed", refsOf(was))
	}
}

func wantGet(t *testing.T, d []api.Slot, n int, b []byte, tags []int, err api.Errno) {
	t.Helper()
	was := twin(d)
	gotBytes, gotTags, e := swap.Get(d, n)
	if !bytes.Equal(gotBytes, b) || !slices.Equal(gotTags, tags) || e != err {
		t.Fatalf("Get of %v, %d: %v, %v, %d; want %v, %v, %d", refsOf(was), n, gotBytes, gotTags, e, b, tags, err)
	}
	if !same(d, was) {
		t.Fatalf("Get of %v, %d changes what it is handed", refsOf(was), n)
	}
}

// wantTurn holds Share or Drop against what must come.
func wantTurn(t *testing.T, name string, turn func([]api.Slot, int) ([]api.Slot, api.Errno), d []api.Slot, n int, must []api.Slot, err api.Errno) {
	t.Helper()
	was := twin(d)
	got, e := turn(d, n)
	if !same(got, must) || e != err {
		t.Fatalf("%s of %v, %d: %v, %d; want %v, %d", name, refsOf(was), n, got, e, must, err)
	}
	if !same(d, was) {
		t.Fatalf("%s of %v, %d changes what it is handed", name, refsOf(was), n)
	}
}

func wantShare(t *testing.T, d []api.Slot, n int, must []api.Slot, err api.Errno) {
	t.Helper()
	wantTurn(t, "Share", swap.Share, d, n, must, err)
}

func wantDrop(t *testing.T, d []api.Slot, n int, must []api.Slot, err api.Errno) {
	t.Helper()
	wantTurn(t, "Drop", swap.Drop, d, n, must, err)
}

// modelPut holds Put against what the chapter says of it, the slots looked at
// from the last one on.
func modelPut(t *testing.T, d []api.Slot, b []byte, tags []int, refs int) {
	t.Helper()
	if len(b) != 64 || len(tags) != 4 || refs != 1 && refs != 2 && refs != 3 && refs != 4 {
		wantPut(t, d, b, tags, refs, nil, 0, api.ErrRange)
		return
	}
	least := -1
	for i := len(d) - 1; i >= 0; i-- {
		if d[i].Refs <= 0 {
			least = i
		}
	}
	if least < 0 {
		wantPut(t, d, b, tags, refs, nil, 0, api.ErrFull)
		return
	}
	wantPut(t, d, b, tags, refs, changed(d, least, api.Slot{Refs: refs, Bytes: b, Tags: tags}), least, api.OK)
}

// modelSlot holds Get, Share and Drop of slot n against what the chapter says
// of them, the slot found by looking at one behind the other.
func modelSlot(t *testing.T, d []api.Slot, n int) {
	t.Helper()
	for i, s := range twin(d) {
		if i != n || s.Refs <= 0 {
			continue
		}
		wantGet(t, d, n, s.Bytes, s.Tags, api.OK)
		if s.Refs > 3 {
			wantShare(t, d, n, nil, api.ErrFull)
		} else {
			wantShare(t, d, n, changed(d, n, api.Slot{Refs: s.Refs + 1, Bytes: s.Bytes, Tags: s.Tags}), api.OK)
		}
		left := api.Slot{}
		if s.Refs > 1 {
			left = api.Slot{Refs: s.Refs - 1, Bytes: s.Bytes, Tags: s.Tags}
		}
		wantDrop(t, d, n, changed(d, n, left), api.OK)
		return
	}
	wantGet(t, d, n, nil, nil, api.ErrNone)
	wantShare(t, d, n, nil, api.ErrNone)
	wantDrop(t, d, n, nil, api.ErrNone)
}

func TestNewHasNothingInIt(t *testing.T) {
	d := swap.New()
	if !same(d, make([]api.Slot, 64)) {
		t.Fatalf("New: %v", d)
	}
	for n := range d {
		modelSlot(t, d, n)
	}
	d[3] = page(3, 1)
	if again := swap.New(); !same(again, make([]api.Slot, 64)) {
		t.Errorf("New, once more: %v", again)
	}
}

func TestTheDocumentsExample(t *testing.T) {
	d, n, e := swap.Put(swap.New(), some(5, 64), few(5, 4), 2)
	if n != 0 || e != api.OK {
		t.Fatalf("Put: %d, %d", n, e)
	}
	d, e = swap.Drop(d, n)
	if e != api.OK {
		t.Fatalf("Drop: %d", e)
	}
	wantGet(t, d, n, some(5, 64), few(5, 4), api.OK)
	d, e = swap.Drop(d, n)
	if e != api.OK || !same(d, swap.New()) {
		t.Fatalf("Drop, once more: %v, %d", d, e)
	}
	wantGet(t, d, n, nil, nil, api.ErrNone)
}

func TestPutUntilAllAreMeant(t *testing.T) {
	d := swap.New()
	for i := range 64 {
		got, n, e := swap.Put(d, some(i, 64), few(i, 4), i%4+1)
		if n != i || e != api.OK {
			t.Fatalf("Put number %d: %d, %d", i, n, e)
		}
		d = got
	}
	for i := range 64 {
		wantGet(t, d, i, some(i, 64), few(i, 4), api.OK)
		if d[i].Refs != i%4+1 {
			t.Errorf("slot %d: Refs %d", i, d[i].Refs)
		}
	}
	wantPut(t, d, some(9, 64), few(9, 4), 1, nil, 0, api.ErrFull)
}

func TestPutTakesTheLeastThatIsNotMeant(t *testing.T) {
	b, tags := some(77, 64), few(7, 4)
	put := api.Slot{Refs: 3, Bytes: b, Tags: tags}
	d := device(1, 4, 0, 2, 0)
	wantPut(t, d, b, tags, 3, changed(d, 2, put), 2, api.OK)
	d = device(0, 0)
	wantPut(t, d, b, tags, 3, changed(d, 0, put), 0, api.OK)
	d = device(2, 2, 2, 0)
	wantPut(t, d, b, tags, 3, changed(d, 3, put), 3, api.OK)
}

// TestRefsBelowOneAreNotMeant has slots in which something is, but that nobody
// means.
func TestRefsBelowOneAreNotMeant(t *testing.T) {
	for _, refs := range []int{0, -1, -2, -4, -256, math.MinInt32, math.MinInt + 1, math.MinInt} {
		d := device(1, refs, 2)
		wantGet(t, d, 1, nil, nil, api.ErrNone)
		wantShare(t, d, 1, nil, api.ErrNone)
		wantDrop(t, d, 1, nil, api.ErrNone)
		wantPut(t, d, some(9, 64), few(9, 4), 4, changed(d, 1, page(9, 4)), 1, api.OK)
	}
}

func TestPutOfTooManyOrTooFew(t *testing.T) {
	for _, d := range [][]api.Slot{swap.New(), device(0), device(1, 1), nil} {
		for _, n := range []int{0, 1, 4, 16, 32, 63, 65, 66, 128, 320, 1<<16 + 64} {
			wantPut(t, d, some(1, n), few(1, 4), 1, nil, 0, api.ErrRange)
		}
		for _, n := range []int{0, 1, 2, 3, 5, 8, 64, 260} {
			wantPut(t, d, some(1, 64), few(1, n), 1, nil, 0, api.ErrRange)
		}
		for _, refs := range append([]int{0, 5, 6, 7, 8}, far...) {
			wantPut(t, d, some(1, 64), few(1, 4), refs, nil, 0, api.ErrRange)
		}
		wantPut(t, d, nil, nil, 0, nil, 0, api.ErrRange)
		wantPut(t, d, some(1, 4), few(1, 64), 1, nil, 0, api.ErrRange)
	}
}

func TestPutRefsFromOneToProcs(t *testing.T) {
	for refs := -2; refs <= 7; refs++ {
		modelPut(t, swap.New(), some(2, 64), few(2, 4), refs)
		modelPut(t, device(1, 0), some(2, 64), few(2, 4), refs)
		modelPut(t, device(1, 1), some(2, 64), few(2, 4), refs)
	}
}

// TestPutHoldsTagsAndBytesToNoBound lays down whatever stands in these.
func TestPutHoldsTagsAndBytesToNoBound(t *testing.T) {
	for i := 0; i+4 <= len(far); i++ {
		d, n, e := swap.Put(device(1, 0), bytes.Repeat([]byte{byte(i * 10)}, 64), far[i:i+4], 1)
		if n != 1 || e != api.OK {
			t.Fatalf("Put with tags %d: %d, %d", far[i:i+4], n, e)
		}
		wantGet(t, d, 1, bytes.Repeat([]byte{byte(i * 10)}, 64), far[i:i+4], api.OK)
	}
}

func TestGet(t *testing.T) {
	d := device(1, 0, 4, 9)
	wantGet(t, d, 0, some(0, 64), few(0, 4), api.OK)
	wantGet(t, d, 1, nil, nil, api.ErrNone)
	wantGet(t, d, 2, some(2, 64), few(2, 4), api.OK)
	wantGet(t, d, 3, some(3, 64), few(3, 4), api.OK)
	wantGet(t, d, 4, nil, nil, api.ErrNone)
}

func TestShareUntilAllMeanIt(t *testing.T) {
	d := device(2, 1, 0)
	for refs := 2; refs <= 4; refs++ {
		wantShare(t, d, 1, changed(d, 1, page(1, refs)), api.OK)
		d, _ = swap.Share(d, 1)
	}
	wantShare(t, d, 1, nil, api.ErrFull)
	wantShare(t, d, 2, nil, api.ErrNone)
	wantShare(t, d, 0, changed(d, 0, page(0, 3)), api.OK)
}

// TestMoreThanProcs has slots that are meant more often than Put and Share
// would have it.
func TestMoreThanProcs(t *testing.T) {
	for _, refs := range []int{4, 5, 6, 64, 256, 257, 1 << 32, 1<<32 + 1, math.MaxInt - 1, math.MaxInt} {
		d := device(1, refs, 0)
		wantGet(t, d, 1, some(1, 64), few(1, 4), api.OK)
		wantShare(t, d, 1, nil, api.ErrFull)
		wantDrop(t, d, 1, changed(d, 1, page(1, refs-1)), api.OK)
		wantPut(t, d, some(9, 64), few(9, 4), 1, changed(d, 2, page(9, 1)), 2, api.OK)
	}
}

func TestDropUntilNothingIsThere(t *testing.T) {
	d := device(1, 4, 1)
	for refs := 3; refs >= 1; refs-- {
		wantDrop(t, d, 1, changed(d, 1, page(1, refs)), api.OK)
		d, _ = swap.Drop(d, 1)
	}
	wantDrop(t, d, 1, changed(d, 1, api.Slot{}), api.OK)
	d, _ = swap.Drop(d, 1)
	wantDrop(t, d, 1, nil, api.ErrNone)
	wantGet(t, d, 0, some(0, 64), few(0, 4), api.OK)
	wantGet(t, d, 2, some(2, 64), few(2, 4), api.OK)
}

func TestNumbersThatAreNoSlots(t *testing.T) {
	full := device(slices.Repeat([]int{1}, 64)...)
	for _, d := range [][]api.Slot{full, full[:0], nil, {}} {
		for _, n := range far {
			wantGet(t, d, n, nil, nil, api.ErrNone)
			wantShare(t, d, n, nil, api.ErrNone)
			wantDrop(t, d, n, nil, api.ErrNone)
		}
	}
	// That there is no such slot is told of full ones, too.
	most := device(4, 4)
	wantShare(t, most, 2, nil, api.ErrNone)
	wantShare(t, most, -1, nil, api.ErrNone)
}

func TestDevicesWithoutSlots(t *testing.T) {
	for _, d := range [][]api.Slot{nil, {}, device(0, 1)[:0]} {
		wantPut(t, d, some(1, 64), few(1, 4), 1, nil, 0, api.ErrFull)
		for n := -1; n <= 2; n++ {
			modelSlot(t, d, n)
		}
	}
}

// TestDevicesOfOtherLengths goes by the list that is handed in.
func TestDevicesOfOtherLengths(t *testing.T) {
	for _, n := range []int{1, 2, 63, 64, 65, 100, 300} {
		d := device(slices.Repeat([]int{2}, n)...)
		modelPut(t, d, some(1, 64), few(1, 4), 1)
		d[n-1].Refs = 0
		modelPut(t, d, some(1, 64), few(1, 4), 1)
		for _, k := range []int{-1, 0, n / 2, n - 2, n - 1, n, n + 1} {
			modelSlot(t, d, k)
		}
	}
}

// TestAllDevices holds all calls, of all devices of at most four slots and of
// slots on either side of these, against the model.
func TestAllDevices(t *testing.T) {
	counts := []int{-1, 0, 1, 3, 4, 5}
	for n := range 5 {
		all := 1
		for range n {
			all *= len(counts)
		}
		for x := range all {
			refs := make([]int, n)
			for i := range refs {
				refs[i] = counts[x%len(counts)]
				x /= len(counts)
			}
			d := device(refs...)
			modelPut(t, d, some(9, 64), few(9, 4), 2)
			for k := -1; k <= n; k++ {
				modelSlot(t, d, k)
			}
		}
	}
}

// TestSlotsOfOtherSizes has slots in which there is not just a page: they stay
// as they are, and are told as they are.
func TestSlotsOfOtherSizes(t *testing.T) {
	d := []api.Slot{
		{Refs: 1},
		{Refs: 2, Bytes: []byte{}, Tags: []int{}},
		{Refs: 3, Bytes: some(1, 3), Tags: few(1, 9)},
		{Refs: 4, Bytes: some(2, 100)},
		{Refs: 0, Tags: few(3, 2)},
		{Refs: -5, Bytes: some(3, 1)},
		{Refs: 1, Bytes: some(4, 64), Tags: few(4, 4)},
	}
	modelPut(t, d, some(9, 64), few(9, 4), 1)
	for n := range d {
		modelSlot(t, d, n)
	}
}

// scribble writes into all lists of d, their spare room, and its own.
func scribble(d []api.Slot) {
	for _, s := range d[:cap(d)] {
		scribbleBytes(s.Bytes)
		scribbleTags(s.Tags)
	}
	for i := range d[:cap(d)] {
		d[:cap(d)][i].Refs ^= 0x55
	}
}

func scribbleBytes(l []byte) {
	for i := range l[:cap(l)] {
		l[:cap(l)][i] ^= 0x55
	}
}

func scribbleTags(l []int) {
	for i := range l[:cap(l)] {
		l[:cap(l)][i] ^= 0x55
	}
}

// turns are all calls that answer a device, with b and tags for Put.
func turns(b []byte, tags []int) []func([]api.Slot) []api.Slot {
	return []func([]api.Slot) []api.Slot{
		func(d []api.Slot) []api.Slot { x, _, _ := swap.Put(d, b, tags, 2); return x },
		func(d []api.Slot) []api.Slot { x, _ := swap.Share(d, 0); return x },
		func(d []api.Slot) []api.Slot { x, _ := swap.Share(d, 3); return x },
		func(d []api.Slot) []api.Slot { x, _ := swap.Drop(d, 0); return x },
		func(d []api.Slot) []api.Slot { x, _ := swap.Drop(d, 3); return x },
	}
}

func TestAnswersAreNewMemory(t *testing.T) {
	for i := range turns(nil, nil) {
		b, tags := some(9, 64), few(9, 4)
		turn := turns(b, tags)[i]
		d := device(1, 2, 0, 3, 0)
		first, second := turn(d), turn(d)
		must := twin(first)
		scribble(second)
		if !same(d, device(1, 2, 0, 3, 0)) || !bytes.Equal(b, some(9, 64)) || !slices.Equal(tags, few(9, 4)) {
			t.Errorf("call %d: what is answered shares memory with what was handed in", i)
		}
		if !same(first, must) {
			t.Errorf("call %d: two answers share memory", i)
		}
		scribble(d)
		scribbleBytes(b)
		scribbleTags(tags)
		if !same(first, must) || len(first) != 5 {
			t.Errorf("call %d: the answer changes with what was handed in", i)
		}
	}
}

func TestGetAnswersNewMemory(t *testing.T) {
	d := device(0, 2)
	b, tags, _ := swap.Get(d, 1)
	more, moreTags, _ := swap.Get(d, 1)
	scribbleBytes(more)
	scribbleTags(moreTags)
	if !same(d, device(0, 2)) {
		t.Error("what Get answers shares memory with the device")
	}
	scribble(d)
	if !bytes.Equal(b, some(1, 64)) || !slices.Equal(tags, few(1, 4)) {
		t.Error("what Get answered changes with the device, or with another answer")
	}
}

// TestListsOfOneAnswerShareNothing hands in slots that have one list.
func TestListsOfOneAnswerShareNothing(t *testing.T) {
	b, tags := some(1, 64), few(1, 4)
	for i, turn := range turns(b, tags) {
		var d []api.Slot
		for _, refs := range []int{2, 2, 0, 2} {
			d = append(d, api.Slot{Refs: refs, Bytes: b, Tags: tags})
		}
		got := turn(d)
		must := twin(got)
		for n := range got {
			scribbleBytes(got[n].Bytes)
			scribbleTags(got[n].Tags)
			must[n] = twin(got[n : n+1])[0]
			if !same(got, must) {
				t.Fatalf("call %d: slot %d shares memory with another one", i, n)
			}
		}
	}
}

// TestSpareRoomIsNeitherSeenNorChanged hands in beginnings of lists: behind
// them lie slots that would be found, and what would be as long as a page.
func TestSpareRoomIsNeitherSeenNorChanged(t *testing.T) {
	whole := device(1, 2, 1, 0, 3, 0)
	for n := range whole {
		whole[n].Bytes = some(n, 80)[:64]
		whole[n].Tags = few(n, 9)[:4]
	}
	deep := func() []api.Slot {
		out := make([]api.Slot, len(whole))
		for i, s := range whole {
			out[i] = api.Slot{Refs: s.Refs, Bytes: s.Bytes[:80], Tags: s.Tags[:9]}
		}
		return twin(out)
	}
	was := deep()
	b, tags := some(9, 80), few(9, 9)
	for n := range len(whole) + 1 {
		for _, d := range [][]api.Slot{whole[:n], whole[:n:n]} {
			modelPut(t, d, b[:64], tags[:4], 1)
			modelPut(t, d, b[:63], tags[:4], 1)
			modelPut(t, d, b[:64], tags[:3], 1)
			for k := -1; k <= len(whole); k++ {
				modelSlot(t, d, k)
			}
		}
	}
	if !same(deep(), was) || !bytes.Equal(b, some(9, 80)) || !slices.Equal(tags, few(9, 9)) {
		t.Error("spare room was changed")
	}
}

// TestEmptyListsWithRoom has slots with nothing but spare room in their lists.
func TestEmptyListsWithRoom(t *testing.T) {
	b, tags := some(1, 8), few(1, 8)
	d := []api.Slot{{Refs: 2, Bytes: b[:0], Tags: tags[:0]}, {}}
	got, _ := swap.Share(d, 0)
	_, _ = append(got[0].Bytes, 0xee), append(got[0].Tags, 99)
	moreBytes, moreTags, _ := swap.Get(d, 0)
	_, _ = append(moreBytes, 0xee), append(moreTags, 99)
	if !bytes.Equal(b, some(1, 8)) || !slices.Equal(tags, few(1, 8)) {
		t.Error("answers have room in what was handed in")
	}
}

// TestWhatWasPutAndDroppedIsAsItWas puts, shares and drops as often.
func TestWhatWasPutAndDroppedIsAsItWas(t *testing.T) {
	was := device(1, 2, 0, 4)
	was[2] = api.Slot{}
	for refs := 1; refs <= 4; refs++ {
		d, n, _ := swap.Put(was, some(9, 64), few(9, 4), refs)
		for range 4 - refs {
			d, _ = swap.Share(d, n)
		}
		wantShare(t, d, n, nil, api.ErrFull)
		for range 4 {
			wantGet(t, d, n, some(9, 64), few(9, 4), api.OK)
			d, _ = swap.Drop(d, n)
		}
		if !same(d, was) {
			t.Errorf("put for %d, and dropped: %v", refs, d)
		}
	}
}

// TestLongWalk does many things one behind the other, each of which is held
// against the model.
func TestLongWalk(t *testing.T) {
	d := swap.New()
	for i := range 3000 {
		n := i * 29 % 67
		modelSlot(t, d, n)
		var next []api.Slot
		var e api.Errno
		switch {
		case i%7 < 3:
			modelPut(t, d, some(i, 64), few(i, 4), i%6)
			next, _, e = swap.Put(d, some(i, 64), few(i, 4), i%6)
		case i%7 < 5:
			next, e = swap.Share(d, n)
		default:
			next, e = swap.Drop(d, n)
		}
		if e == api.OK {
			d = next
		}
	}
}

// FuzzAll makes a device of bytes, and holds all calls against the model.
func FuzzAll(f *testing.F) {
	f.Add([]byte{1, 0, 4}, 2, 64, 4, 1)
	f.Add([]byte{1, 1}, -1, 63, 4, 4)
	f.Add([]byte{}, 0, 64, 3, 5)
	f.Add([]byte{255, 7, 0}, math.MaxInt, 64, 4, math.MinInt)
	f.Fuzz(func(t *testing.T, l []byte, n, size, grains, refs int) {
		var d []api.Slot
		for i, x := range l {
			d = append(d, api.Slot{Refs: int(int8(x)) % 7, Bytes: some(i, int(x)%5), Tags: few(i, int(x)%3)})
		}
		b, tags := some(1, int(uint(size)%130)), few(1, int(uint(grains)%9))
		modelPut(t, d, b, tags, refs)
		modelPut(t, d, some(2, 64), few(2, 4), refs)
		modelPut(t, d, some(2, 64), few(2, 4), refs&3+1)
		modelSlot(t, d, n)
		if len(d) > 0 {
			modelSlot(t, d, int(uint(n)%uint(len(d))))
		}
	})
}
