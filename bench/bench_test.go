package bench_test

import (
	"fmt"
	"math"
	"slices"
	"strings"
	"testing"

	"framewarden/api"
	"framewarden/bench"
)

// far are numbers that no line has; some would be fine, were they cut to fewer
// bits.
var far = []int{math.MinInt, math.MinInt + 1, -1<<40 - 1, -1 << 40, math.MinInt32, -1 << 16, -64, -2, -1, 1<<40 + 1, 1<<40 + 2, 1 << 41, 1<<48 + 1, 1 << 62, math.MaxInt - 1, math.MaxInt}

// fit are numbers that a line may have.
var fit = []int{0, 1, 2, 9, 10, 11, 63, 64, 99, 100, 101, 4095, 4096, 1 << 16, 1<<31 - 1, 1 << 31, 1<<32 - 1, 1 << 32, 999999999999, 1000000000000, 1<<40 - 1, 1 << 40}

type ops = []api.Op

// wantPrint holds Print of l against what must come, and answers it.
func wantPrint(t *testing.T, l ops) (string, api.Errno) {
	t.Helper()
	must, wrong := modelPrint(l)
	s, e := bench.Print(l)
	if s != must || e != wrong {
		t.Fatalf("Print(%+v): %q, %d; want %q, %d", l, s, e, must, wrong)
	}
	return s, e
}

// wantParse holds Parse of s against what must come, and answers it; and sees
// that what has ops is their text.
func wantParse(t *testing.T, s string) (ops, int, api.Errno) {
	t.Helper()
	must, at, wrong := modelParse(s)
	l, n, e := bench.Parse(s)
	if !slices.Equal(l, must) || n != at || e != wrong {
		t.Fatalf("Parse(%q): %+v, %d, %d; want %+v, %d, %d", s, l, n, e, must, at, wrong)
	}
	if again, e := bench.Print(l); wrong == api.OK && (again != s || e != api.OK) {
		t.Fatalf("Print of what Parse(%q) answers: %q, %d", s, again, e)
	}
	return l, n, e
}

// wantWrong sees that s has no ops, and that line at is the first wrong one.
func wantWrong(t *testing.T, s string, at int) {
	t.Helper()
	if _, n, e := wantParse(t, s); n != at || e != api.ErrForm {
		t.Fatalf("Parse(%q): line %d, error %d; want line %d, error %d", s, n, e, at, api.ErrForm)
	}
	if told, e := bench.Tell(s); len(told) != 0 || e != api.ErrForm {
		t.Fatalf("Tell(%q): %q, error %d", s, told, e)
	}
}

// wantTell holds Tell of s against what must come, and answers it.
func wantTell(t *testing.T, s string) []string {
	t.Helper()
	must, wrong := modelTell(s)
	told, e := bench.Tell(s)
	if !slices.Equal(told, must) || e != wrong {
		t.Fatalf("Tell(%q): %q, %d; want %q, %d", s, told, e, must, wrong)
	}
	return told
}

// each are ops of each kind, whose numbers are unlike; and their lines.
var each = []struct {
	op   api.Op
	line string
}{
	{api.Op{Kind: api.OpMap, Proc: 1, Count: 2, Rights: 3, Key: 4, Draw: 5}, "map 1 2 3 4 5\n"},
	{api.Op{Kind: api.OpMap, Proc: 1, Count: 2, Rights: 3, Key: 4, Draw: 5, Tagged: true}, "tagmap 1 2 3 4 5\n"},
	{api.Op{Kind: api.OpUnmap, Proc: 6, Page: 7, Count: 8}, "unmap 6 7 8\n"},
	{api.Op{Kind: api.OpProtect, Proc: 9, Page: 10, Count: 11, Rights: 12, Key: 13}, "protect 9 10 11 12 13\n"},
	{api.Op{Kind: api.OpSeal, Proc: 14, Page: 15, Count: 16}, "seal 14 15 16\n"},
	{api.Op{Kind: api.OpKeyNew, Proc: 17}, "newkey 17\n"},
	{api.Op{Kind: api.OpKeyFree, Proc: 18, Key: 19}, "freekey 18 19\n"},
	{api.Op{Kind: api.OpKeySet, Proc: 20, Key: 21, Rights: 22}, "setkey 20 21 22\n"},
	{api.Op{Kind: api.OpFork, Proc: 23}, "fork 23\n"},
	{api.Op{Kind: api.OpExit, Proc: 24}, "exit 24\n"},
	{api.Op{Kind: api.OpLoad, Proc: 25, Addr: 26, Size: 27, Tag: 28}, "load 25 26 27 28\n"},
	{api.Op{Kind: api.OpStore, Proc: 29, Addr: 30, Size: 31, Value: 32, Tag: 33}, "store 29 30 31 32 33\n"},
	{api.Op{Kind: api.OpFetch, Proc: 34, Addr: 35, Size: 36}, "fetch 34 35 36\n"},
	{api.Op{Kind: api.OpTag, Proc: 37, Addr: 38, Count: 39, Tag: 40}, "tag 37 38 39 40\n"},
	{api.Op{Kind: api.OpReclaim, Count: 41}, "reclaim 41\n"},
}

func TestTheDocumentsExample(t *testing.T) {
	l := ops{{Kind: api.OpLoad, Addr: 2, Size: 1}}
	if s, e := wantPrint(t, l); s != "load 0 2 1 0\n" || e != api.OK {
		t.Errorf("Print: %q, %d", s, e)
	}
	if got, _, _ := wantParse(t, "load 0 2 1 0\n"); !slices.Equal(got, l) {
		t.Errorf("Parse: %+v", got)
	}
	if told := wantTell(t, "load 0 2 1 0\n"); !slices.Equal(told, []string{"fault 1 2"}) {
		t.Errorf("Tell: %q", told)
	}
}

func TestEachKindsLine(t *testing.T) {
	var all ops
	text := ""
	for _, x := range each {
		if s, e := wantPrint(t, ops{x.op}); s != x.line || e != api.OK {
			t.Errorf("Print(%+v): %q, %d; want %q", x.op, s, e, x.line)
		}
		if got, n, e := wantParse(t, x.line); !slices.Equal(got, ops{x.op}) || n != 0 || e != api.OK {
			t.Errorf("Parse(%q): %+v, %d, %d; want %+v", x.line, got, n, e, x.op)
		}
		all = append(all, x.op)
		text += x.line
	}
	if s, e := wantPrint(t, all); s != text || e != api.OK {
		t.Errorf("Print of all kinds: %q, %d", s, e)
	}
	if got, n, e := wantParse(t, text); !slices.Equal(got, all) || n != 0 || e != api.OK {
		t.Errorf("Parse of all kinds: %+v, %d, %d", got, n, e)
	}
}

func TestNothing(t *testing.T) {
	for _, l := range []ops{nil, {}} {
		if s, e := bench.Print(l); s != "" || e != api.OK {
			t.Errorf("Print of no ops: %q, %d", s, e)
		}
	}
	if l, n, e := bench.Parse(""); len(l) != 0 || n != 0 || e != api.OK {
		t.Errorf("Parse of no text: %v, %d, %d", l, n, e)
	}
	if told, e := bench.Tell(""); len(told) != 0 || e != api.OK {
		t.Errorf("Tell of no text: %q, %d", told, e)
	}
}

// TestNumbersThatAreWritten puts each number into each field of each kind's
// line, and sees that Parse takes just what Print writes.
func TestNumbersThatAreWritten(t *testing.T) {
	for _, x := range each {
		_, names, _ := modelNames(x.op)
		for i, name := range names {
			for _, n := range slices.Concat(fit, far) {
				op := x.op
				*fieldOf(&op, name) = n
				must := api.OK
				if slices.Contains(far, n) {
					must = api.ErrRange
				}
				if _, e := wantPrint(t, ops{op}); e != must {
					t.Fatalf("Print(%+v): error %d; want %d", op, e, must)
				}
				parts := strings.Fields(x.line)
				parts[1+i] = fmt.Sprint(n)
				s := strings.Join(parts, " ") + "\n"
				if must != api.OK {
					wantWrong(t, s, 0)
				} else if got, _, _ := wantParse(t, s); !slices.Equal(got, ops{op}) {
					t.Fatalf("Parse(%q): %+v; want %+v", s, got, op)
				}
			}
		}
	}
}

// TestWhatIsNotWrittenMeansNothing puts any number into fields that a kind's
// line has not.
func TestWhatIsNotWrittenMeansNothing(t *testing.T) {
	for _, x := range each {
		_, names, _ := modelNames(x.op)
		for _, n := range slices.Concat(fit, far) {
			op := x.op
			op.Tagged = op.Tagged || op.Kind != api.OpMap
			for _, name := range allFields {
				if !slices.Contains(names, name) {
					*fieldOf(&op, name) = n
				}
			}
			s, e := wantPrint(t, ops{op})
			if s != x.line || e != api.OK {
				t.Fatalf("Print(%+v): %q, %d; want %q", op, s, e, x.line)
			}
			if got, _, _ := wantParse(t, s); !slices.Equal(got, ops{x.op}) {
				t.Fatalf("Parse(%q): %+v; want %+v", s, got, x.op)
			}
		}
	}
}

func TestKindsThatAreNone(t *testing.T) {
	kinds := append([]int{0, 15, 16, 17, 255, 256, 257, 270, 1 << 16, 1 << 32, 1<<32 + 1, 1<<32 + 14}, far...)
	for _, kind := range kinds {
		for _, op := range (ops{{}, {Proc: 1, Count: 2}, {Proc: -1}, {Tagged: true}}) {
			op.Kind = kind
			if s, e := wantPrint(t, ops{op}); s != "" || e != api.ErrRange {
				t.Errorf("Print(%+v): %q, %d", op, s, e)
			}
		}
	}
}

// TestOneOpThatHasNoLine is enough that no op has one, wherever it stands.
func TestOneOpThatHasNoLine(t *testing.T) {
	for _, wrong := range (ops{{}, {Kind: 15}, {Kind: 8, Proc: -1}, {Kind: 14, Count: 1<<40 + 1}, {Kind: 11, Value: -1}}) {
		for at := range 4 {
			l := slices.Insert(ops{{Kind: 8}, {Kind: 9, Proc: 1}, {Kind: 14, Count: 2}}, at, wrong)
			if s, e := wantPrint(t, l); s != "" || e != api.ErrRange {
				t.Errorf("Print(%+v): %q, %d", l, s, e)
			}
		}
	}
}

// TestLinesThatAreNoOps puts what is nearly a line where a line should be, in
// a good text's beginning, within it, and at its end.
func TestLinesThatAreNoOps(t *testing.T) {
	for _, line := range []string{
		"", " ", "  ", "0", "1 2", "fork", "fork ", "fork  0", " fork 0", "fork 0 ", "fork 0 1", "fork 0 0", "fork0", "fork\t0", "fork,0", "fork 0\r", "\rfork 0", "fork\r0",
		"fork 00", "fork 01", "fork 000", "fork +0", "fork -0", "fork +1", "fork -1", "fork 0x1", "fork 0b1", "fork 0o1", "fork 1_0", "fork 1.0", "fork 1e1", "fork 0.", "fork 1,000", "fork a", "fork ٣", "fork \xff", "fork 1\x00", "\x00fork 1", "fork 1\xff", "fork\x001",
		"fork 1099511627777", "fork 2000000000000", "fork 9999999999999", "fork 10995116277760", "fork 01099511627776", "fork 9223372036854775807", "fork 9223372036854775808", "fork 18446744073709551616", "fork 18446744073709551617", "fork 340282366920938463463374607431768211456", "fork " + strings.Repeat("0", 99), "fork " + strings.Repeat("9", 99),
		"Fork 0", "FORK 0", "forK 0", "for 0", "forks 0", "fork: 0", "ﬁork 0", "kind 0", "8 0", "none 0", "run 0",
		"map", "map 0 2 3 0", "map 0 2 3 0 0 0", "map 0 2 3  0 0", "map 0 2 3 0 0 ", "map 0 2 3 0 -1", "maptag 0 2 3 0 0", "tag map 0 2 3 0 0", "Tagmap 0 2 3 0 0", "tagmap 0 2 3 0", "tagmap 0 2 3 0 0 0", "tagmap 0 2 3 0 0 true",
		"load 0 1 2", "load 0 2 1 0 0", "load 0 2  1 0", "store 0 5 1 9", "store 0 5 1 9 0 0", "fetch 0 0", "fetch 0 0 1 0", "tag 0 0 1", "tag 0 0 1 3 3", "unmap 0 0", "unmap 0 0 1 1", "protect 0 0 1 1", "protect 0 0 1 1 0 0", "seal 0 0", "seal 0 0 1 0", "newkey", "newkey 0 0", "freekey 0", "freekey 0 1 1", "setkey 0 1", "setkey 0 1 2 2", "exit", "exit 0 0", "reclaim", "reclaim 0 0", "reclaim -1", "reclaim 0 64",
	} {
		good := []string{"fork 0\n", "map 0 2 3 0 0\n", "reclaim 64\n"}
		for at := range 4 {
			wantWrong(t, strings.Join(slices.Insert(slices.Clone(good), at, line+"\n"), ""), at)
			// The first wrong line is told, whatever follows it.
			wantWrong(t, strings.Join(good[:at], "")+line+"\nno op\nfork 0", at)
		}
		if line != "" {
			wantWrong(t, strings.Join(good, "")+line, 3)
			wantWrong(t, line, 0)
		}
	}
}

func TestLinesWithoutAnEnd(t *testing.T) {
	for _, x := range each {
		line := strings.TrimSuffix(x.line, "\n")
		wantWrong(t, line, 0)
		wantWrong(t, "fork 0\n"+line, 1)
		wantWrong(t, "fork 0\nexit 1\n"+line, 2)
		wantWrong(t, "fork 0\nexit 1\n"+x.line+line, 3)
		for _, end := range []string{"\r", "\r\n", "\n\r", "\x00", "\v", "\f", " \n", "\u0085", "\u2028", ";", `\n`} {
			wantParse(t, line+end)
			wantParse(t, line+end+line+"\n")
		}
		wantWrong(t, line+"\r\n", 0)
		wantWrong(t, x.line+"\n", 1)
		wantWrong(t, "\n"+x.line, 0)
	}
}

// TestLinesThatAreCutShort parses each beginning of a text of all kinds.
func TestLinesThatAreCutShort(t *testing.T) {
	text := ""
	for _, x := range each {
		text += x.line
	}
	for n := range len(text) {
		wantParse(t, text[:n])
		wantParse(t, text[n:])
	}
}

// TestLinesWithOneOtherByte parses what comes of each line, if one byte is
// another one, is gone, or comes twice, or there is one more.
func TestLinesWithOneOtherByte(t *testing.T) {
	for _, x := range each {
		for i := range x.line {
			wantParse(t, x.line[:i]+x.line[i+1:])
			for b := range 256 {
				with := x.line[:i] + string([]byte{byte(b)})
				wantParse(t, with+x.line[i+1:])
				wantParse(t, with+x.line[i:])
			}
		}
	}
}

// TestWordsWithOtherNumbersOfFields gives each word from none to seven
// numbers.
func TestWordsWithOtherNumbersOfFields(t *testing.T) {
	for _, x := range each {
		word, names, _ := modelNames(x.op)
		for n := range 8 {
			s := word + strings.Repeat(" 1", n) + "\n"
			_, _, e := wantParse(t, s)
			if (e == api.OK) != (n == len(names)) {
				t.Errorf("Parse(%q): error %d", s, e)
			}
		}
	}
}

// TestWhatIsHandedInIsOnlyRead looks at the list, and at the room behind it.
func TestWhatIsHandedInIsOnlyRead(t *testing.T) {
	all := ops{{Kind: 8, Page: -1, Tagged: true}, {Kind: 1, Tagged: true, Tag: -5}, {Kind: 14, Proc: -3}, {Kind: 99}, {Kind: 8, Proc: -1}}
	l := slices.Clone(all)
	s, e := bench.Print(l[:3])
	if s != "fork 0\ntagmap 0 0 0 0 0\nreclaim 0\n" || e != api.OK {
		t.Errorf("Print looks behind the list: %q, %d", s, e)
	}
	if !slices.Equal(l, all) {
		t.Errorf("Print changes what it is handed: %+v", l)
	}
	l[0], l[1], l[2] = api.Op{}, api.Op{}, api.Op{}
	if s != "fork 0\ntagmap 0 0 0 0 0\nreclaim 0\n" {
		t.Errorf("Print's answer changes: %q", s)
	}
	if bench.Print(l); !slices.Equal(l[3:], all[3:]) {
		t.Errorf("Print changes what is behind the list: %+v", l)
	}
}

// TestAnswersAreNewMemory writes over all that one call answers, behind the
// lists' ends too, and asks again.
func TestAnswersAreNewMemory(t *testing.T) {
	s := "map 0 2 3 0 0\nfork 0\nload 1 127 2 0\nexit 7\n"
	for range 3 {
		l, _, _ := wantParse(t, s)
		l = l[:cap(l)]
		for i := range l {
			l[i] = api.Op{Kind: 77, Proc: 77}
		}
		told := wantTell(t, s)
		told = told[:cap(told)]
		for i := range told {
			told[i] = "77"
		}
	}
}

// TestLongTexts parses and prints texts of a great many lines, and lines that are
// very long.
func TestLongTexts(t *testing.T) {
	const n = 200000
	s := strings.Repeat("store 3 4095 1 1099511627776 15\n", n)
	l, at, e := bench.Parse(s)
	if len(l) != n || at != 0 || e != api.OK {
		t.Fatalf("Parse of %d lines: %d ops, line %d, error %d", n, len(l), at, e)
	}
	if again, e := bench.Print(l); again != s || e != api.OK {
		t.Fatalf("Print of %d ops: %d bytes, error %d", n, len(again), e)
	}
	if _, at, e := bench.Parse(s + "store 3"); at != n || e != api.ErrForm {
		t.Errorf("Parse of %d lines and a wrong one: line %d, error %d", n, at, e)
	}
	for _, part := range []string{" ", "0", "1", "9", "fork", " 0", "\x00", "\xff", "\r"} {
		long := strings.Repeat(part, 1<<20)
		for _, s := range []string{long, long + "\n", "fork " + long + "\n", "fork 0" + long + "\n", "load 0 2 " + long + " 0\n"} {
			if l, at, e := bench.Parse("fork 0\n" + s); len(l) != 0 || at != 1 || e != api.ErrForm {
				t.Errorf("Parse of %q.. : %d ops, line %d, error %d", s[:20], len(l), at, e)
			}
		}
	}
	if l, at, e := bench.Parse(strings.Repeat("\n", 1<<20)); len(l) != 0 || at != 0 || e != api.ErrForm {
		t.Errorf("Parse of ends alone: %d ops, line %d, error %d", len(l), at, e)
	}
}
