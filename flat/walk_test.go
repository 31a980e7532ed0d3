package flat_test

import (
	"testing"

	"framewarden/api"
	"framewarden/flat"
)

// draws answers a rule that tells one number below n behind the other.
func draws(seed uint64) func(n int) int {
	x := seed*0x9e3779b97f4a7c15 | 1
	return func(n int) int {
		x ^= x << 13
		x ^= x >> 7
		x ^= x << 17
		return int((x >> 1) % uint64(n))
	}
}

// drawn answers an op that is mostly near to what may go well: pages are few
// and low, and addresses near to where pages and granules meet.
func drawn(n func(int) int) api.Op {
	op := api.Op{Kind: 1 + n(14), Proc: n(2), Page: n(12), Count: 1 + n(3), Rights: n(6), Key: n(2), Tagged: n(3) > 0, Draw: n(6), Value: n(1<<40) - 1<<39, Tag: n(2) * n(2), Size: 1 + n(4)}
	op.Addr = 16*n(48) + n(2)*(n(7)-3)
	switch op.Kind {
	case api.OpExit:
		if n(3) > 0 {
			op.Kind = api.OpMap
		}
		op.Proc = n(4)
	case api.OpMap, api.OpProtect:
		op.Rights += n(8) / 7 * n(4)
	case api.OpSeal, api.OpUnmap:
		if n(3) > 0 {
			op.Kind = api.OpStore
		}
	case api.OpTag:
		op.Addr -= n(4) / 3 * (op.Addr % 16)
		op.Count = 1 + n(10)
	case api.OpKeySet:
		op.Rights = n(5)
	}
	if n(30) == 0 {
		op = spoiled(op, n)
	}
	return op
}

// spoiled puts one number into op that may be far off.
func spoiled(op api.Op, n func(int) int) api.Op {
	x := far[n(len(far))]
	if n(2) == 0 {
		x = n(80) - 8
	}
	fields := []*int{&op.Kind, &op.Proc, &op.Page, &op.Count, &op.Rights, &op.Key, &op.Draw, &op.Addr, &op.Size, &op.Tag}
	*fields[n(len(fields))] = x
	return op
}

// TestLongWalks does many ops, and sees that each kind goes well, and goes
// wrong, in each way that the chapter names.
func TestLongWalks(t *testing.T) {
	seen := map[[3]int]int{}
	for seed := range 400 {
		n := draws(uint64(seed) + 1)
		var l ops
		for range 300 {
			l = append(l, drawn(n))
		}
		answers, _ := wantModel(t, l)
		for i, a := range answers {
			seen[[3]int{l[i].Kind, int(a.Err), a.Fault}]++
		}
	}
	for kind, errs := range map[int][]api.Errno{
		1: {0, 2, 3, 4, 6}, 2: {0, 2, 3, 7}, 3: {0, 1, 2, 3, 6, 7}, 4: {0, 1, 2, 3}, 5: {0, 3, 4}, 6: {0, 3, 7}, 7: {0, 2, 3},
		8: {0, 3, 4}, 9: {0, 3}, 10: {0, 2, 3}, 11: {0, 2, 3}, 12: {0, 2, 3}, 13: {0, 2, 3}, 14: {0}, 0: {5}, 15: {5},
	} {
		for _, e := range errs {
			if seen[[3]int{kind, int(e), 0}] == 0 {
				t.Errorf("no op of kind %d had error %d", kind, e)
			}
		}
	}
	for kind, faults := range map[int][]int{10: {1, 2, 3, 4}, 11: {1, 2, 3, 4}, 12: {1, 2}, 13: {1, 2, 3, 4}} {
		for _, f := range faults {
			if seen[[3]int{kind, int(api.ErrFault), f}] == 0 {
				t.Errorf("no op of kind %d had fault %d", kind, f)
			}
		}
	}
}

// TestEachStepOfAWalk looks at all processes behind each op.
func TestEachStepOfAWalk(t *testing.T) {
	for seed := range 12 {
		n := draws(uint64(seed) + 1000)
		var l ops
		for range 150 {
			l = append(l, drawn(n))
			wantModel(t, l)
		}
	}
}

// TestErrorsChangeNothing leaves out of walks all that had an error, and what
// changes nothing: the rest is done as before.
func TestErrorsChangeNothing(t *testing.T) {
	for seed := range 100 {
		n := draws(uint64(seed) + 2000)
		var l, kept ops
		for range 200 {
			l = append(l, drawn(n))
		}
		answers, procs := flat.Run(l)
		var left []api.Ans
		for i, a := range answers {
			if a.Err != api.OK && a != (api.Ans{Err: a.Err, Fault: a.Fault, At: a.At}) {
				t.Fatalf("%+v beside an error", a)
			}
			if a.Err == api.OK && l[i].Kind != api.OpReclaim && l[i].Kind != api.OpLoad {
				kept, left = append(kept, l[i]), append(left, a)
			}
		}
		again, others := flat.Run(kept)
		for i, a := range again {
			if a != left[i] {
				t.Fatalf("%+v: %+v; it was %+v", kept[i], a, left[i])
			}
		}
		for i := range procs {
			if !same(procs[i], others[i]) {
				t.Fatalf("process %d: %+v; it was %+v", i, others[i], procs[i])
			}
		}
	}
}

// FuzzAll makes ops of bytes, and holds them against the model.
func FuzzAll(f *testing.F) {
	f.Add([]byte{1, 0, 0, 2, 3, 0, 1, 0, 0, 0, 0, 0, 13, 0, 0, 4, 0, 0, 0, 0, 0, 0, 0, 5, 10, 0, 0, 0, 0, 0, 0, 0, 63, 2, 0, 5})
	f.Add([]byte{1, 0, 0, 3, 3, 0, 0, 9, 0, 0, 0, 0, 8, 0, 0, 0, 0, 0, 0, 0, 0, 0, 0, 0, 11, 1, 0, 0, 0, 0, 0, 0, 200, 4, 255, 0})
	f.Fuzz(func(t *testing.T, b []byte) {
		var l ops
		for ; len(b) >= 12; b = b[12:] {
			l = append(l, api.Op{
				Kind: int(b[0]), Proc: int(int8(b[1])), Page: int(int8(b[2])), Count: int(b[3]), Rights: int(int8(b[4])), Key: int(int8(b[5])),
				Tagged: b[6]&1 == 1, Draw: int(int8(b[7])), Addr: int(b[8]) + int(b[6]>>1)<<5, Size: int(int8(b[9])), Value: int(int8(b[10])) * 0x01010101, Tag: int(int8(b[11])),
			})
		}
		wantModel(t, l)
	})
}
