package vm_test

import (
	"testing"

	"framewarden/api"
)

// draws answers a rule that tells one number below n behind the other.
func draws(seed uint64) func(n int) int {
	x := seed*0x9e3779b97f4a7c15 | 1
	return func(n int) int {
		x ^= x << 13
		x ^= x >> 7
		x ^= x << 17
		return int((x >> 1) % uint64(n))
	}
}

// drawn answers an op that is mostly near to what may go well; whatever looks
// at memory comes often, exits come seldom.
func drawn(n func(int) int) api.Op {
	op := api.Op{
		Kind: 1 + n(14), Proc: n(4), Page: n(64), Count: 1 + n(8), Rights: 3, Key: n(20) / 19, Tagged: n(3) > 0, Draw: n(64),
		Addr: 16*n(256) + n(2)*(n(7)-3), Value: n(1<<40) - 1<<39, Tag: n(4) / 3, Size: 1 + n(4),
	}
	switch op.Kind {
	case api.OpMap:
		op.Count += n(8)
	case api.OpUnmap, api.OpExit, api.OpProtect, api.OpSeal, api.OpKeySet:
		if n(6) > 0 {
			op.Kind = api.OpStore
		}
		op.Rights = n(6)
	case api.OpTag:
		op.Addr &^= 15
		op.Count += n(40)
	case api.OpReclaim:
		op.Count = n(70) - 2
	}
	if n(40) == 0 {
		op = spoiled(op, n)
	}
	return op
}

// spoiled puts one number into op that may be far off.
func spoiled(op api.Op, n func(int) int) api.Op {
	x := far[n(len(far))]
	fields := []*int{&op.Kind, &op.Proc, &op.Page, &op.Count, &op.Rights, &op.Key, &op.Draw, &op.Addr, &op.Size, &op.Tag}
	*fields[n(len(fields))] = x
	return op
}

// TestLongWalks does many ops, and sees that each kind goes well, and each
// look at memory goes wrong in each way.
func TestLongWalks(t *testing.T) {
	met := map[[3]int]int{}
	out := 0
	for seed := range 150 {
		n := draws(uint64(seed) + 1)
		l := ops{{Kind: api.OpKeyNew}}
		for range 400 {
			l = append(l, drawn(n))
		}
		answers, u := wantSeemly(t, l)
		for i, a := range answers {
			met[[3]int{l[i].Kind, int(a.Err), a.Fault}]++
		}
		out += u.Slots
	}
	for kind := 1; kind <= 14; kind++ {
		if met[[3]int{kind, 0, 0}] == 0 {
			t.Errorf("no op of kind %d went well", kind)
		}
	}
	for kind, faults := range map[int][]int{10: {1, 2, 3, 4}, 11: {1, 2, 3, 4}, 12: {1, 2}, 13: {1, 2, 3, 4}} {
		for _, f := range faults {
			if met[[3]int{kind, int(api.ErrFault), f}] == 0 {
				t.Errorf("no op of kind %d had fault %d", kind, f)
			}
		}
	}
	if out == 0 {
		t.Error("no walk ended with a page in a slot")
	}
}

// TestCrowdedWalks have as many pages as there may be, of four processes that
// have as many tables, and some of whom are then another one's children.
func TestCrowdedWalks(t *testing.T) {
	for seed := range 60 {
		n := draws(uint64(seed) + 500)
		l := ops{{Kind: 8}, {Kind: 8}, {Kind: 8}}
		for range 60 {
			l = append(l, api.Op{Kind: 1, Proc: n(4), Count: 1 + n(2), Rights: 3, Draw: n(64)})
		}
		for i := range 800 {
			if i == 400 {
				l = append(l, api.Op{Kind: 9, Proc: 1}, api.Op{Kind: 9, Proc: 3}, api.Op{Kind: 8}, api.Op{Kind: 8, Proc: 2})
			}
			l = append(l, api.Op{Kind: 10 + n(2), Proc: n(4), Addr: 64*n(64) + n(61), Size: 4, Value: n(1 << 32)})
		}
		if _, u := wantSeemly(t, l[:400]); u.Frames != 64 || u.Slots == 0 {
			t.Fatalf("%+v: that is no crowd", u)
		}
		wantSeemly(t, l)
	}
}

// TestEachStepOfAWalk looks at what is in use behind each op.
func TestEachStepOfAWalk(t *testing.T) {
	for seed := range 12 {
		n := draws(uint64(seed) + 1000)
		var l ops
		for range 150 {
			l = append(l, drawn(n))
		}
		wantEach(t, l)
	}
}

// TestReclaimIsNotSeen leaves it out of walks: the other answers stay.
func TestReclaimIsNotSeen(t *testing.T) {
	for seed := range 40 {
		n := draws(uint64(seed) + 2000)
		var l, less ops
		for range 300 {
			op := drawn(n)
			l = append(l, op)
			if op.Kind != api.OpReclaim {
				less = append(less, op)
			}
		}
		with, _ := wantSeemly(t, l)
		without, _ := wantSeemly(t, less)
		for i, op := range l {
			if op.Kind == api.OpReclaim {
				continue
			}
			if with[i] != without[0] {
				t.Fatalf("%+v: %+v, and %+v if nothing is taken back", op, with[i], without[0])
			}
			without = without[1:]
		}
	}
}

// FuzzAll makes ops of bytes.
func FuzzAll(f *testing.F) {
	f.Add([]byte{1, 0, 0, 2, 3, 0, 1, 0, 0, 0, 0, 0, 13, 0, 0, 4, 0, 0, 0, 0, 0, 0, 0, 5, 10, 0, 0, 0, 0, 0, 0, 0, 63, 2, 0, 5})
	f.Add([]byte{1, 0, 0, 64, 3, 0, 0, 9, 0, 0, 0, 0, 14, 0, 0, 60, 0, 0, 0, 0, 0, 0, 0, 0, 11, 0, 0, 0, 0, 0, 0, 0, 200, 4, 255, 0})
	f.Fuzz(func(t *testing.T, b []byte) {
		var l ops
		for ; len(b) >= 12; b = b[12:] {
			l = append(l, api.Op{
				Kind: int(b[0]), Proc: int(int8(b[1])), Page: int(int8(b[2])), Count: int(b[3]), Rights: int(int8(b[4])), Key: int(int8(b[5])),
				Tagged: b[6]&1 == 1, Draw: int(int8(b[7])), Addr: int(b[8]) + int(b[6]>>1)<<5, Size: int(int8(b[9])), Value: int(int8(b[10])) * 0x01010101, Tag: int(int8(b[11])),
			})
		}
		if len(l) < 60 {
			wantEach(t, l)
		}
		wantSeemly(t, l)
	})
}
