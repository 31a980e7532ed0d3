package ram_test

import (
	"bytes"
	"math"
	"testing"

	"framewarden/api"
	"framewarden/ram"
)

const all = api.Frames * api.PageSize

// counting answers n bytes that are 1, 2, 3 and so on.
func counting(n int) []byte {
	out := make([]byte, n)
	for i := range out {
		out[i] = byte(i + 1)
	}
	return out
}

// fits says by looking at each place what the program says by one comparison.
func fits(size, at, n int) bool {
	if n < 1 || n > 4 || at < 0 || at > size {
		return false
	}
	for i := at; i < at+n; i++ {
		if i >= size {
			return false
		}
	}
	return true
}

func wantGet(t *testing.T, r []byte, at, n, want int) {
	t.Helper()
	v, e := ram.Get(r, at, n)
	if v != want || e != api.OK {
		t.Errorf("Get of %d bytes, at %d, n %d: %d, %d; want %d, 0", len(r), at, n, v, e, want)
	}
}

func wantPut(t *testing.T, r []byte, at, n, v int, want []byte) {
	t.Helper()
	p, e := ram.Put(r, at, n, v)
	if !bytes.Equal(p, want) || e != api.OK {
		t.Errorf("Put in %d bytes, at %d, n %d, v %d: %d, %d; want %d, 0", len(r), at, n, v, p, e, want)
	}
}

func wantRange(t *testing.T, r []byte, at, n int) {
	t.Helper()
	if v, e := ram.Get(r, at, n); v != 0 || e != api.ErrRange {
		t.Errorf("Get of %d bytes, at %d, n %d: %d, %d; want 0, ErrRange", len(r), at, n, v, e)
	}
	if p, e := ram.Put(r, at, n, 0x1234); len(p) != 0 || e != api.ErrRange {
		t.Errorf("Put in %d bytes, at %d, n %d: %d, %d; want none, ErrRange", len(r), at, n, p, e)
	}
}

func TestNewHasAllFramesAndOnlyNoughts(t *testing.T) {
	r := ram.New()
	if !bytes.Equal(r, make([]byte, 4096)) {
		t.Errorf("New has %d bytes, or one that is not 0", len(r))
	}
}

func TestNewIsNewEachTime(t *testing.T) {
	first := ram.New()
	for i := range first {
		first[i] = 0xff
	}
	if !bytes.Equal(ram.New(), make([]byte, all)) {
		t.Error("what is written into one New is in the next one")
	}
}

func TestGetReadsTheLeastByteFirst(t *testing.T) {
	r := []byte{0xff, 0x03, 0x02, 0x01, 0x80, 0xff}
	wantGet(t, r, 1, 1, 0x03)
	wantGet(t, r, 1, 2, 0x0203)
	wantGet(t, r, 1, 3, 0x010203)
	wantGet(t, r, 1, 4, 0x80010203)
}

func TestGetIsNeverNegative(t *testing.T) {
	r := []byte{0xff, 0xff, 0xff, 0xff}
	wantGet(t, r, 0, 1, 0xff)
	wantGet(t, r, 0, 2, 0xffff)
	wantGet(t, r, 0, 3, 0xffffff)
	wantGet(t, r, 0, 4, 0xffffffff)
}

func TestPutWritesTheLeastByteFirst(t *testing.T) {
	r := make([]byte, 6)
	wantPut(t, r, 1, 3, 0x010203, []byte{0, 3, 2, 1, 0, 0})
	wantPut(t, r, 1, 1, 0x0d, []byte{0, 0x0d, 0, 0, 0, 0})
	wantPut(t, r, 1, 2, 0x0c0d, []byte{0, 0x0d, 0x0c, 0, 0, 0})
	wantPut(t, r, 1, 4, 0x0a0b0c0d, []byte{0, 0x0d, 0x0c, 0x0b, 0x0a, 0})
}

func TestPutTakesOnlyTheLowestBytes(t *testing.T) {
	r := counting(5)
	wantPut(t, r, 0, 1, 0x1234, []byte{0x34, 2, 3, 4, 5})
	wantPut(t, r, 0, 4, 0x0a0b0c0d0e, []byte{0x0e, 0x0d, 0x0c, 0x0b, 5})
	wantPut(t, r, 1, 2, -2, []byte{1, 0xfe, 0xff, 4, 5})
	wantPut(t, r, 1, 4, -1, []byte{1, 0xff, 0xff, 0xff, 0xff})
	wantPut(t, r, 1, 4, math.MaxInt, []byte{1, 0xff, 0xff, 0xff, 0xff})
	wantPut(t, r, 1, 4, math.MinInt, []byte{1, 0, 0, 0, 0})
	wantPut(t, r, 1, 4, 0, []byte{1, 0, 0, 0, 0})
}

func TestFirstAndLastPlace(t *testing.T) {
	for n := 1; n <= 4; n++ {
		r := counting(all)
		for _, at := range []int{0, 1, all - n - 1, all - n} {
			want := 0
			for i := n - 1; i >= 0; i-- {
				want = want*256 + int(r[at+i])
			}
			wantGet(t, r, at, n, want)

			changed := counting(all)
			copy(changed[at:], []byte{0x99, 0x88, 0x77, 0x66}[:n])
			wantPut(t, r, at, n, 0x66778899, changed)
		}
		wantRange(t, r, -1, n)
		wantRange(t, r, all-n+1, n)
		wantRange(t, r, all, n)
	}
}

func TestSmallListsOfEveryLength(t *testing.T) {
	for size := range 8 {
		r := counting(size)
		for at := -3; at <= size+3; at++ {
			for n := -3; n <= 8; n++ {
				if !fits(size, at, n) {
					wantRange(t, r, at, n)
					continue
				}
				want, want256 := 0, 1
				changed := counting(size)
				for i := range n {
					want += int(r[at+i]) * want256
					want256 *= 256
					changed[at+i] = byte(0xa0 - i)
				}
				wantGet(t, r, at, n, want)
				wantPut(t, r, at, n, 0x9d9e9fa0, changed)
			}
		}
	}
}

func TestNumbersFarOutOfRange(t *testing.T) {
	far := []int{math.MinInt, math.MinInt + 1, math.MinInt + 4, math.MinInt32, -all, -5, -1}
	big := []int{5, 8, 1 << 32, 1 << 62, math.MaxInt - 4, math.MaxInt - 3, math.MaxInt - 1, math.MaxInt}
	for _, r := range [][]byte{ram.New(), counting(6), {7}} {
		for _, x := range append(far, big...) {
			wantRange(t, r, 0, x)
			for _, y := range append(far, big...) {
				wantRange(t, r, x, y)
			}
		}
		wantRange(t, r, 0, 0)
		for n := 1; n <= 4; n++ {
			for _, x := range far {
				wantRange(t, r, x, n)
			}
			for _, x := range big[2:] {
				wantRange(t, r, x, n)
			}
		}
	}
}

func TestNilAndEmptyHaveNoBytes(t *testing.T) {
	for _, r := range [][]byte{nil, {}, make([]byte, 0, 8)} {
		for _, at := range []int{math.MinInt, -1, 0, 1, math.MaxInt} {
			for n := -1; n <= 5; n++ {
				wantRange(t, r, at, n)
			}
		}
	}
}

func TestListsLongerThanAllFrames(t *testing.T) {
	r := counting(all + 3)
	wantGet(t, r, all, 3, 0x030201)
	changed := counting(all + 3)
	changed[all+2] = 0xee
	wantPut(t, r, all+2, 1, 0xee, changed)
	wantRange(t, r, all, 4)
}

func TestSpareRoomIsNotThere(t *testing.T) {
	whole := counting(8)
	r := whole[:3]
	wantGet(t, r, 2, 1, 3)
	wantRange(t, r, 2, 2)
	wantRange(t, r, 3, 1)
}

func TestWhatIsHandedInStaysAsItIs(t *testing.T) {
	whole := counting(8)
	r := whole[:6]
	for at := -1; at <= 8; at++ {
		for n := -1; n <= 5; n++ {
			ram.Get(r, at, n)
			ram.Put(r, at, n, -1)
		}
	}
	if !bytes.Equal(whole, counting(8)) {
		t.Errorf("the list, or the room behind it, was changed: %d", whole)
	}
}

func TestWhatPutAnswersIsNewMemory(t *testing.T) {
	r := counting(6)
	p, _ := ram.Put(r, 0, 1, 1)
	for i := range r {
		r[i] = 0xff
	}
	if !bytes.Equal(p, counting(6)) {
		t.Errorf("a change of the list is in the answer: %d", p)
	}
	for i := range p {
		p[i] = 0xee
	}
	if !bytes.Equal(r, bytes.Repeat([]byte{0xff}, 6)) {
		t.Errorf("a change of the answer is in the list: %d", r)
	}
}

func TestWhatIsPutIsGot(t *testing.T) {
	for n := 1; n <= 4; n++ {
		for _, v := range []int{0, 1, 0x7f, 0x80, 0xff, 0x100, 0x12345678, 0xfedcba98, -1, math.MinInt, math.MaxInt} {
			for _, at := range []int{0, 63, 64, all - n} {
				p, _ := ram.Put(ram.New(), at, n, v)
				wantGet(t, p, at, n, v&(1<<(8*n)-1))
			}
		}
	}
}

func TestFrame(t *testing.T) {
	for n := range api.Frames {
		if at := ram.Frame(n); at != 64*n {
			t.Errorf("Frame(%d): %d; want %d", n, at, 64*n)
		}
	}
	for _, n := range []int{math.MinInt, -64, -1, 64, 65, 4096, 1 << 58, 1 << 62, math.MaxInt} {
		if at := ram.Frame(n); at != -1 {
			t.Errorf("Frame(%d): %d; want -1", n, at)
		}
	}
}
