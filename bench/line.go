package bench

import (
	"strconv"
	"strings"

	"framewarden/api"
)

// most is the greatest number that a line may have.
const most = 1 << 40

// shape answers the word of op's line, and which of op's fields follow it, in
// turn; no word, if there is no such Kind. They are pointers, so that what is
// written and what is read goes by one list.
func shape(op *api.Op) (string, []*int) {
	switch op.Kind {
	case api.OpMap:
		word := "map"
		if op.Tagged {
			word = "tagmap"
		}
		return word, []*int{&op.Proc, &op.Count, &op.Rights, &op.Key, &op.Draw}
	case api.OpUnmap:
		return "unmap", []*int{&op.Proc, &op.Page, &op.Count}
	case api.OpProtect:
		return "protect", []*int{&op.Proc, &op.Page, &op.Count, &op.Rights, &op.Key}
	case api.OpSeal:
		return "seal", []*int{&op.Proc, &op.Page, &op.Count}
	case api.OpKeyNew:
		return "newkey", []*int{&op.Proc}
	case api.OpKeyFree:
		return "freekey", []*int{&op.Proc, &op.Key}
	case api.OpKeySet:
		return "setkey", []*int{&op.Proc, &op.Key, &op.Rights}
	case api.OpFork:
		return "fork", []*int{&op.Proc}
	case api.OpExit:
		return "exit", []*int{&op.Proc}
	case api.OpLoad:
		return "load", []*int{&op.Proc, &op.Addr, &op.Size, &op.Tag}
	case api.OpStore:
		return "store", []*int{&op.Proc, &op.Addr, &op.Size, &op.Value, &op.Tag}
	case api.OpFetch:
		return "fetch", []*int{&op.Proc, &op.Addr, &op.Size}
	case api.OpTag:
		return "tag", []*int{&op.Proc, &op.Addr, &op.Count, &op.Tag}
	case api.OpReclaim:
		return "reclaim", []*int{&op.Count}
	}
	return "", nil
}

// words answers, of each word, the op with whose line it begins, as far as a
// word tells it: its Kind, and whether it is Tagged.
func words() map[string]api.Op {
	known := map[string]api.Op{}
	for kind := api.OpMap; kind <= api.OpReclaim; kind++ {
		op := api.Op{Kind: kind}
		word, _ := shape(&op)
		known[word] = op
	}
	// Only of pages that are mapped does the word tell whether they are Tagged.
	op := api.Op{Kind: api.OpMap, Tagged: true}
	word, _ := shape(&op)
	known[word] = op
	return known
}

// write answers text with op's line and its end behind; false, if op has none.
func write(text []byte, op api.Op) ([]byte, bool) {
	word, numbers := shape(&op)
	text = append(text, word...)
	for _, n := range numbers {
		if *n < 0 || *n > most {
			return nil, false
		}
		text = append(text, ' ')
		text = strconv.AppendInt(text, int64(*n), 10)
	}
	return append(text, '\n'), word != ""
}

// read answers the op whose line is text, without an end; false, if it is no
// op's.
func read(text string, known map[string]api.Op) (api.Op, bool) {
	word, rest, more := strings.Cut(text, " ")
	op, ok := known[word]
	_, numbers := shape(&op)
	for _, n := range numbers {
		var one string
		one, rest, more = strings.Cut(rest, " ")
		if *n, ok = number(one); !ok {
			return api.Op{}, false
		}
	}
	return op, ok && !more
}

// number answers the number that text is; false, if no line has it so.
func number(text string) (int, bool) {
	n, err := strconv.Atoi(text)
	// Atoi takes signs and needless 0s, too: those are not written so.
	return n, err == nil && n >= 0 && n <= most && strconv.Itoa(n) == text
}
