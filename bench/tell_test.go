package bench_test

import (
	"slices"
	"strings"
	"testing"

	"framewarden/api"
	"framewarden/bench"
)

// TestToldOnes has each thing that can be told of an op by a text: all errors
// but ErrKind, which has no line, and all faults.
func TestToldOnes(t *testing.T) {
	var text, must []string
	for _, x := range [][2]string{
		{"map 0 2 3 0 0", "ok 0"},
		{"store 0 5 4 258 0", "ok 0"},
		{"load 0 5 2 0", "ok 258"},
		{"store 0 124 4 4294967295 0", "ok 0"},
		{"load 0 124 4 0", "ok 4294967295"},
		{"store 0 124 4 1099511627775 0", "ok 0"},
		{"load 0 125 3 0", "ok 16777215"},
		{"load 0 126 4 0", "fault 1 128"},
		{"load 0 4095 1 0", "fault 1 4095"},
		{"load 0 4096 1 0", "error 2"},
		{"load 0 4095 2 0", "error 2"},
		{"load 0 0 1 16", "error 2"},
		{"fetch 0 63 1", "fault 2 63"},
		{"protect 0 0 1 1 0", "ok 0"},
		{"store 0 62 4 0 0", "fault 2 62"},
		{"protect 0 0 1 6 0", "error 6"},
		{"protect 0 0 1 8 0", "error 2"},
		{"protect 0 0 1 1 1", "error 3"},
		{"protect 0 2 1 1 0", "error 1"},
		{"newkey 0", "ok 1"},
		{"protect 0 0 1 1 1", "ok 0"},
		{"setkey 0 1 1", "ok 0"},
		{"load 0 0 1 0", "fault 3 0"},
		{"freekey 0 1", "error 7"},
		{"newkey 0", "ok 2"},
		{"newkey 0", "ok 3"},
		{"newkey 0", "error 4"},
		{"freekey 0 3", "ok 0"},
		{"tagmap 0 1 3 0 0", "ok 3"},
		{"tag 0 208 2 5", "ok 0"},
		{"load 0 223 2 5", "ok 0"},
		{"load 0 223 4 4", "fault 4 223"},
		{"load 0 239 0 5", "error 2"},
		{"load 0 222 4 5", "ok 0"},
		{"load 0 207 2 0", "fault 4 208"},
		{"tag 0 64 1 5", "fault 4 64"},
		{"tag 0 65 1 5", "error 2"},
		{"seal 0 3 1", "ok 0"},
		{"unmap 0 3 1", "error 7"},
		{"unmap 0 0 65", "error 2"},
		{"map 0 65 3 0 0", "error 2"},
		{"map 0 62 3 0 0", "error 4"},
		{"reclaim 64", "ok 0"},
		{"fork 0", "ok 1"},
		{"fork 1", "ok 2"},
		{"load 2 124 2 0", "ok 65535"},
		{"exit 1", "ok 0"},
		{"exit 1", "error 3"},
		{"fork 4", "error 3"},
		{"fork 1099511627776", "error 3"},
		{"reclaim 1099511627776", "ok 0"},
		{"fork 2", "ok 1"},
		{"fork 2", "ok 3"},
		{"fork 2", "error 4"},
	} {
		text = append(text, x[0]+"\n")
		must = append(must, x[1])
		got := wantTell(t, strings.Join(text, ""))
		if last := len(got) - 1; got[last] != x[1] {
			t.Fatalf("%s: %q; want %q", x[0], got[last], x[1])
		}
	}
	if got := wantTell(t, strings.Join(text, "")); !slices.Equal(got, must) {
		t.Errorf("%q; want %q", got, must)
	}
}

// TestTellDoesNothingOfAWrongText tells its error, and nothing of the lines
// ahead.
func TestTellDoesNothingOfAWrongText(t *testing.T) {
	for _, s := range []string{"fork 0", "fork 0\nfork 0", "fork 0\n\n", "fork 0\nno op\nfork 0\n", "x\n", "map 0 1 3 0 0\nload 0 0 1 0\nfork -1\n"} {
		if told, e := bench.Tell(s); len(told) != 0 || e != api.ErrForm {
			t.Errorf("Tell(%q): %q, error %d", s, told, e)
		}
	}
}

// draws answers a rule that tells one number below n behind the other.
func draws(seed uint64) func(n int) int {
	x := seed*0x9e3779b97f4a7c15 | 1
	return func(n int) int {
		x ^= x << 13
		x ^= x >> 7
		x ^= x << 17
		return int((x >> 1) % uint64(n))
	}
}

// drawn answers an op that may go well; what its line has not may be anything.
func drawn(n func(int) int) api.Op {
	op := api.Op{
		Kind: 1 + n(14), Proc: n(4), Page: n(64), Count: 1 + n(6), Rights: 3, Key: n(20) / 19, Tagged: n(3) > 0, Draw: n(64),
		Addr: 16*n(256) + n(2)*n(4), Value: n(1 << 40), Tag: n(4) / 3, Size: 1 + n(4),
	}
	if op.Kind == api.OpExit && n(4) > 0 || op.Kind == api.OpUnmap && n(2) > 0 {
		op.Kind = api.OpMap
	}
	if op.Kind == api.OpTag {
		op.Addr &^= 15
	}
	if n(40) == 0 {
		*fieldOf(&op, allFields[n(len(allFields))]) = slices.Concat(fit, far)[n(len(fit)+len(far))]
	}
	return op
}

// TestLongWalks prints, parses and tells many ops.
func TestLongWalks(t *testing.T) {
	met := map[string]int{}
	for seed := range 200 {
		n := draws(uint64(seed))
		var l ops
		for range 300 {
			op := drawn(n)
			if _, e := wantPrint(t, ops{op}); e == api.OK {
				l = append(l, op)
			}
		}
		s, e := wantPrint(t, l)
		if e != api.OK {
			t.Fatalf("Print has error %d, of ops that have none one by one", e)
		}
		wantParse(t, s)
		for _, line := range wantTell(t, s) {
			word, _, _ := strings.Cut(line, " ")
			met[word]++
		}
	}
	for _, word := range []string{"ok", "fault", "error"} {
		if met[word] < 1000 {
			t.Errorf("%q is told %d times alone: the walks are too tame", word, met[word])
		}
	}
}

// FuzzTexts holds any text against the model.
func FuzzTexts(f *testing.F) {
	f.Add("")
	f.Add("fork 0")
	f.Add("fork 00\n")
	f.Add("load 0 2 1 0\n\n")
	f.Add("map 0 2 3 0 0\nstore 0 5 1 9 0\nreclaim 64\nload 0 5 1 0\n")
	for _, x := range each {
		f.Add("fork 1099511627776\n" + x.line + x.line)
	}
	f.Fuzz(func(t *testing.T, s string) {
		wantParse(t, s)
		wantTell(t, s)
	})
}
