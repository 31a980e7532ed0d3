package flat_test

import (
	"slices"

	"framewarden/api"
)

// cell is a page that is there.
type cell struct {
	attr  api.Attr
	bytes [64]byte
	tags  [4]int
}

// being is a process that lives: it has cells where its pages are, and its
// keys are those that are Taken.
type being struct {
	cells [64]*cell
	keys  map[int]int // what each key denies
}

// model is all processes; those that do not live are nil. It knows pages and
// addresses alone: neither regions nor spans.
type model struct {
	beings [4]*being
}

func newModel() *model {
	return &model{beings: [4]*being{{keys: map[int]int{0: 0}}}}
}

func bad(e api.Errno) api.Ans { return api.Ans{Err: e} }

// pages counts the pages of all processes.
func (m *model) pages() int {
	n := 0
	for _, b := range m.beings {
		n += b.count()
	}
	return n
}

func (b *being) count() int {
	n := 0
	if b != nil {
		for _, c := range b.cells {
			if c != nil {
				n++
			}
		}
	}
	return n
}

// do does op as the chapter says.
func (m *model) do(op api.Op) api.Ans {
	if op.Kind <= 0 || op.Kind >= 15 {
		return bad(api.ErrKind)
	}
	if op.Kind == 14 {
		return api.Ans{}
	}
	var b *being
	for i, x := range m.beings {
		if i == op.Proc {
			b = x
		}
	}
	if b == nil {
		return bad(api.ErrNone)
	}
	switch op.Kind {
	case 1:
		return m.mapped(b, op)
	case 2, 3, 4:
		return b.turned(op)
	case 5:
		return b.newKey()
	case 6, 7:
		return b.oldKey(op)
	case 8:
		return m.forked(b)
	case 9:
		m.beings[op.Proc] = nil
		return api.Ans{}
	}
	return b.looked(op)
}

// guarded answers what is wrong with rights and a key.
func (b *being) guarded(op api.Op) api.Errno {
	switch op.Rights {
	case 0, 1, 2, 3, 4, 5:
	case 6, 7:
		return api.ErrRole
	default:
		return api.ErrRange
	}
	if _, ok := b.keys[op.Key]; !ok {
		return api.ErrNone
	}
	return api.OK
}

// fits answers whether pages from at on are free, and those beside them.
func (b *being) fits(at, count int) bool {
	for n, c := range b.cells {
		if c != nil && n >= at-1 && n <= at+count {
			return false
		}
	}
	return at+count <= 64
}

func (m *model) mapped(b *being, op api.Op) api.Ans {
	if op.Count <= 0 || op.Count >= 65 {
		return bad(api.ErrRange)
	}
	if e := b.guarded(op); e != api.OK {
		return bad(e)
	}
	if m.pages()+op.Count >= 65 {
		return bad(api.ErrFull)
	}
	var free []int
	for at := range 64 {
		if b.fits(at, op.Count) {
			free = append(free, at)
		}
	}
	if len(free) == 0 {
		return bad(api.ErrFull)
	}
	at := free[(op.Draw%len(free)+len(free))%len(free)]
	for i := range op.Count {
		b.cells[at+i] = &cell{attr: api.Attr{Rights: op.Rights, Key: op.Key, Tagged: op.Tagged}}
	}
	return api.Ans{Value: at}
}

// span answers op's pages, or none, if they are not all pages.
func span(op api.Op) []int {
	var l []int
	for n := range 64 {
		if n >= op.Page && n-op.Page < op.Count && op.Page >= 0 {
			l = append(l, n)
		}
	}
	if len(l) != op.Count {
		return nil
	}
	return l
}

func (b *being) turned(op api.Op) api.Ans {
	l := span(op)
	if len(l) == 0 {
		return bad(api.ErrRange)
	}
	if e := b.guarded(op); op.Kind == 3 && e != api.OK {
		return bad(e)
	}
	gone, sealed := false, false
	for _, n := range l {
		gone = gone || b.cells[n] == nil
		sealed = sealed || b.cells[n] != nil && b.cells[n].attr.Sealed
	}
	if gone && op.Kind != 2 {
		return bad(api.ErrForm)
	}
	if sealed && op.Kind != 4 {
		return bad(api.ErrHeld)
	}
	for _, n := range l {
		switch op.Kind {
		case 2:
			b.cells[n] = nil
		case 3:
			b.cells[n].attr.Rights, b.cells[n].attr.Key = op.Rights, op.Key
		case 4:
			b.cells[n].attr.Sealed = true
		}
	}
	return api.Ans{}
}

func (b *being) newKey() api.Ans {
	for k := range 4 {
		if _, ok := b.keys[k]; !ok {
			b.keys[k] = 0
			return api.Ans{Value: k}
		}
	}
	return bad(api.ErrFull)
}

func (b *being) oldKey(op api.Op) api.Ans {
	_, ok := b.keys[op.Key]
	if !ok || op.Kind == 6 && op.Key == 0 {
		return bad(api.ErrNone)
	}
	if op.Kind == 7 {
		if op.Rights < 0 || op.Rights >= 4 {
			return bad(api.ErrRange)
		}
		b.keys[op.Key] = op.Rights
		return api.Ans{}
	}
	for _, c := range b.cells {
		if c != nil && c.attr.Key == op.Key {
			return bad(api.ErrHeld)
		}
	}
	delete(b.keys, op.Key)
	return api.Ans{}
}

func (m *model) forked(b *being) api.Ans {
	if m.pages()+b.count() >= 65 {
		return bad(api.ErrFull)
	}
	for i, x := range m.beings {
		if x != nil {
			continue
		}
		child := &being{keys: map[int]int{}}
		for k, deny := range b.keys {
			child.keys[k] = deny
		}
		for n, c := range b.cells {
			if c != nil {
				twin := *c
				child.cells[n] = &twin
			}
		}
		m.beings[i] = child
		return api.Ans{Value: i}
	}
	return bad(api.ErrFull)
}

// addresses answers all that op touches; none, if not all of them are any.
func addresses(op api.Op) []int {
	many, most, each := op.Size, 4, 1
	if op.Kind == 13 {
		many, most, each = op.Count, 256, 16
	}
	if op.Addr < 0 || op.Addr > 4095 || op.Addr%each != 0 || many < 1 || many > most {
		return nil
	}
	var l []int
	for i := range many * each {
		l = append(l, op.Addr+i)
	}
	if l[len(l)-1] > 4095 {
		return nil
	}
	return l
}

// fault answers the fault of op at an address.
func (b *being) fault(op api.Op, at int) int {
	c := b.cells[at>>6]
	if c == nil {
		return 1
	}
	way := map[int]int{10: 1, 11: 2, 12: 4, 13: 2}[op.Kind]
	if c.attr.Rights&way == 0 {
		return 2
	}
	if op.Kind != 12 && b.keys[c.attr.Key]&way != 0 {
		return 3
	}
	if op.Kind == 13 && !c.attr.Tagged {
		return 4
	}
	if (op.Kind == 10 || op.Kind == 11) && c.attr.Tagged && c.tags[at>>4&3] != op.Tag {
		return 4
	}
	return 0
}

func (b *being) looked(op api.Op) api.Ans {
	l := addresses(op)
	if len(l) == 0 || op.Tag < 0 || op.Tag >= 16 {
		return bad(api.ErrRange)
	}
	for _, at := range l {
		if f := b.fault(op, at); f != 0 {
			return api.Ans{Err: api.ErrFault, Fault: f, At: at}
		}
	}
	v, place := 0, 1
	for i, at := range l {
		c := b.cells[at>>6]
		switch op.Kind {
		case 11:
			c.bytes[at&63] = byte(uint(op.Value) >> (8 * i))
		case 13:
			c.tags[at>>4&3] = op.Tag
		default:
			v += int(c.bytes[at&63]) * place
			place *= 256
		}
	}
	return api.Ans{Value: v}
}

// shown answers all processes as Run should.
func (m *model) shown() [4]api.Proc {
	var out [4]api.Proc
	for i, b := range m.beings {
		if b == nil {
			continue
		}
		p := &out[i]
		p.Live = true
		for k, deny := range b.keys {
			p.Keys[k] = api.Key{Taken: true, Deny: deny}
		}
		for n, c := range b.cells {
			switch {
			case c == nil:
				continue
			case n > 0 && b.cells[n-1] != nil && b.cells[n-1].attr == c.attr:
				p.Regions[len(p.Regions)-1].To++
			default:
				p.Regions = append(p.Regions, api.Region{From: n, To: n + 1, Attr: c.attr})
			}
			p.Pages = append(p.Pages, api.Page{N: n, Bytes: slices.Clone(c.bytes[:]), Tags: slices.Clone(c.tags[:])})
		}
	}
	return out
}
