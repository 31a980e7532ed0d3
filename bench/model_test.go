package bench_test

import (
	"fmt"
	"math/big"
	"reflect"
	"regexp"
	"strings"

	"framewarden/api"
	"framewarden/flat"
)

// modelLines are the lines that the document names: a word, and the names of
// the fields that follow it.
var modelLines = []struct {
	kind   int
	tagged bool
	line   string
}{
	{1, false, "map Proc Count Rights Key Draw"},
	{1, true, "tagmap Proc Count Rights Key Draw"},
	{2, false, "unmap Proc Page Count"},
	{3, false, "protect Proc Page Count Rights Key"},
	{4, false, "seal Proc Page Count"},
	{5, false, "newkey Proc"},
	{6, false, "freekey Proc Key"},
	{7, false, "setkey Proc Key Rights"},
	{8, false, "fork Proc"},
	{9, false, "exit Proc"},
	{10, false, "load Proc Addr Size Tag"},
	{11, false, "store Proc Addr Size Value Tag"},
	{12, false, "fetch Proc Addr Size"},
	{13, false, "tag Proc Addr Count Tag"},
	{14, false, "reclaim Count"},
}

// allFields are the names of all numbers of an op, but its Kind.
var allFields = []string{"Proc", "Page", "Count", "Rights", "Key", "Draw", "Addr", "Size", "Value", "Tag"}

// fieldOf answers op's field of that name, to be read or written.
func fieldOf(op *api.Op, name string) *int {
	return reflect.ValueOf(op).Elem().FieldByName(name).Addr().Interface().(*int)
}

// modelNames answers the word of op's line, and the names of its fields.
func modelNames(op api.Op) (string, []string, bool) {
	for _, l := range modelLines {
		if l.kind == op.Kind && l.tagged == (op.Tagged && op.Kind == 1) {
			parts := strings.Fields(l.line)
			return parts[0], parts[1:], true
		}
	}
	return "", nil, false
}

// modelPrint is what Print must answer.
func modelPrint(ops []api.Op) (string, api.Errno) {
	s := ""
	for _, op := range ops {
		word, names, ok := modelNames(op)
		if !ok {
			return "", api.ErrRange
		}
		s += word
		for _, name := range names {
			n := *fieldOf(&op, name)
			if n < 0 || n > 1099511627776 {
				return "", api.ErrRange
			}
			s += fmt.Sprintf(" %d", n)
		}
		s += "\n"
	}
	return s, api.OK
}

var modelForm = regexp.MustCompile(`^[a-z]+( (0|[1-9][0-9]*))+\n$`)

// modelRead answers the op of a line with its end.
func modelRead(line string) (api.Op, bool) {
	if !modelForm.MatchString(line) {
		return api.Op{}, false
	}
	parts := strings.Fields(line)
	for _, l := range modelLines {
		names := strings.Fields(l.line)
		if names[0] != parts[0] || len(names) != len(parts) {
			continue
		}
		op := api.Op{Kind: l.kind, Tagged: l.tagged}
		for i, name := range names[1:] {
			n, _ := new(big.Int).SetString(parts[1+i], 10)
			if n.Cmp(big.NewInt(1099511627776)) > 0 {
				return api.Op{}, false
			}
			*fieldOf(&op, name) = int(n.Int64())
		}
		return op, true
	}
	return api.Op{}, false
}

// modelParse is what Parse must answer.
func modelParse(s string) ([]api.Op, int, api.Errno) {
	var ops []api.Op
	for i, line := range strings.SplitAfter(s, "\n") {
		if line == "" {
			break
		}
		op, ok := modelRead(line)
		if !ok {
			return nil, i, api.ErrForm
		}
		ops = append(ops, op)
	}
	return ops, 0, api.OK
}

// modelTell is what Tell must answer: flat.Run has the answers of vm.Run.
func modelTell(s string) ([]string, api.Errno) {
	ops, _, e := modelParse(s)
	if e != api.OK {
		return nil, e
	}
	var told []string
	answers, _ := flat.Run(ops)
	for _, a := range answers {
		switch {
		case a.Err == 0:
			told = append(told, fmt.Sprintf("ok %d", a.Value))
		case a.Err == 8:
			told = append(told, fmt.Sprintf("fault %d %d", a.Fault, a.At))
		default:
			told = append(told, fmt.Sprintf("error %d", a.Err))
		}
	}
	return told, api.OK
}
