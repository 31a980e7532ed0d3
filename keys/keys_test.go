package keys_test

import (
	"math"
	"testing"

	"framewarden/api"
	"framewarden/check"
	"framewarden/keys"
)

// far are numbers that are no keys, and nothing that a key denies; some would
// be, were they cut to fewer bits.
var far = []int{math.MinInt, math.MinInt + 1, math.MinInt + 3, math.MinInt32, -1 << 40, -256, -255, -4, -3, -2, -1, 4, 5, 6, 7, 8, 64, 255, 256, 257, 258, 1 << 16, 1<<16 + 1, 1 << 31, 1 << 32, 1<<32 + 1, 1<<32 + 3, 1 << 62, math.MaxInt - 1, math.MaxInt}

// table is short for a process's keys.
type table = [4]api.Key

// on is short for a key that is Taken.
func on(deny int) api.Key { return api.Key{Taken: true, Deny: deny} }

// none are the keys that are answered beside an error.
var none table

// lists answers all tables of keys that are Taken or not, and deny what Set may
// say, and some whose keys deny what it may not.
func lists() []table {
	var l []table
	for n := range 8 * 8 * 8 * 8 {
		var x table
		for k := range x {
			bits := n >> (3 * k) & 7
			x[k] = api.Key{Taken: bits&1 == 1, Deny: bits >> 1}
		}
		l = append(l, x)
	}
	for _, deny := range far {
		for n := range 16 {
			var x table
			for k := range x {
				x[k] = api.Key{Taken: n>>k&1 == 1, Deny: deny}
			}
			l = append(l, x)
		}
	}
	return l
}

// numbers are those on either side of what is a key, or what one denies.
func numbers() []int { return append([]int{0, 1, 2, 3}, far...) }

// taken tells whether k is a key of l that is Taken, by looking at one behind
// the other.
func taken(l table, k int) bool {
	for i := range 4 {
		if i == k {
			return l[i].Taken
		}
	}
	return false
}

// with answers l with another key k.
func with(l table, k int, x api.Key) table {
	var out table
	for i := range out {
		out[i] = l[i]
		if i == k {
			out[i] = x
		}
	}
	return out
}

func wantNew(t *testing.T, l, must table, k int, err api.Errno) {
	t.Helper()
	if got, n, e := keys.New(l); got != must || n != k || e != err {
		t.Fatalf("New of %v: %v, %d, %d; want %v, %d, %d", l, got, n, e, must, k, err)
	}
}

func wantFree(t *testing.T, l table, k int, must table, err api.Errno) {
	t.Helper()
	if got, e := keys.Free(l, k); got != must || e != err {
		t.Fatalf("Free of %v, %d: %v, %d; want %v, %d", l, k, got, e, must, err)
	}
}

func wantSet(t *testing.T, l table, k, deny int, must table, err api.Errno) {
	t.Helper()
	if got, e := keys.Set(l, k, deny); got != must || e != err {
		t.Fatalf("Set of %v, %d, %d: %v, %d; want %v, %d", l, k, deny, got, e, must, err)
	}
}

// modelNew holds New against what the chapter says of it.
func modelNew(t *testing.T, l table) {
	t.Helper()
	least := 4
	for k := 3; k >= 0; k-- {
		if !l[k].Taken {
			least = k
		}
	}
	if least == 4 {
		wantNew(t, l, none, 0, api.ErrFull)
		return
	}
	wantNew(t, l, with(l, least, api.Key{Taken: true}), least, api.OK)
}

// modelFree holds Free against what the chapter says of it.
func modelFree(t *testing.T, l table, k int) {
	t.Helper()
	if k == 0 || !taken(l, k) {
		wantFree(t, l, k, none, api.ErrNone)
		return
	}
	wantFree(t, l, k, with(l, k, api.Key{}), api.OK)
}

// modelSet holds Set against what the chapter says of it.
func modelSet(t *testing.T, l table, k, deny int) {
	t.Helper()
	switch {
	case !taken(l, k):
		wantSet(t, l, k, deny, none, api.ErrNone)
	case deny != 0 && deny != 1 && deny != 2 && deny != 3:
		wantSet(t, l, k, deny, none, api.ErrRange)
	default:
		wantSet(t, l, k, deny, with(l, k, api.Key{Taken: true, Deny: deny}), api.OK)
	}
}

func TestFirst(t *testing.T) {
	if got := keys.First(); got != (table{{Taken: true}}) {
		t.Errorf("First: %v", got)
	}
}

func TestTheDocumentsExample(t *testing.T) {
	wantNew(t, keys.First(), table{{Taken: true}, {Taken: true}}, 1, api.OK)
}

func TestNewUntilAllAreTaken(t *testing.T) {
	l := keys.First()
	for must := 1; must < 4; must++ {
		got, k, e := keys.New(l)
		if k != must || e != api.OK {
			t.Fatalf("New of %v: %d, %d; want %d", l, k, e, must)
		}
		l = got
	}
	if l != (table{{Taken: true}, {Taken: true}, {Taken: true}, {Taken: true}}) {
		t.Errorf("all keys that New gives: %v", l)
	}
	wantNew(t, l, none, 0, api.ErrFull)
}

func TestNewTakesKeyZeroWhereItIsNotTaken(t *testing.T) {
	wantNew(t, none, table{{Taken: true}}, 0, api.OK)
	wantNew(t, table{{}, {Taken: true, Deny: 3}}, table{{Taken: true}, {Taken: true, Deny: 3}}, 0, api.OK)
}

func TestANewKeyDeniesNothing(t *testing.T) {
	for _, deny := range numbers() {
		l := table{{Taken: true}, {Taken: true, Deny: 1}, {Deny: deny}, {Deny: 2}}
		wantNew(t, l, table{{Taken: true}, {Taken: true, Deny: 1}, {Taken: true}, {Deny: 2}}, 2, api.OK)
	}
}

func TestFree(t *testing.T) {
	l := table{{Taken: true, Deny: 1}, {Taken: true, Deny: 2}, {Deny: 3}, {Taken: true, Deny: 3}}
	wantFree(t, l, 1, table{{Taken: true, Deny: 1}, {}, {Deny: 3}, {Taken: true, Deny: 3}}, api.OK)
	wantFree(t, l, 3, table{{Taken: true, Deny: 1}, {Taken: true, Deny: 2}, {Deny: 3}, {}}, api.OK)
	wantFree(t, l, 0, none, api.ErrNone)
	wantFree(t, l, 2, none, api.ErrNone)
}

func TestSet(t *testing.T) {
	l := table{{Taken: true}, {Taken: true, Deny: 2}, {Deny: 3}, {Taken: true, Deny: 1}}
	for deny := range 4 {
		wantSet(t, l, 0, deny, table{{Taken: true, Deny: deny}, l[1], l[2], l[3]}, api.OK)
		wantSet(t, l, 1, deny, table{l[0], {Taken: true, Deny: deny}, l[2], l[3]}, api.OK)
		wantSet(t, l, 2, deny, none, api.ErrNone)
		wantSet(t, l, 3, deny, table{l[0], l[1], l[2], {Taken: true, Deny: deny}}, api.OK)
	}
}

func TestWhatCannotBeDenied(t *testing.T) {
	l := table{{Taken: true}, {Taken: true, Deny: 2}}
	for _, deny := range far {
		wantSet(t, l, 0, deny, none, api.ErrRange)
		wantSet(t, l, 1, deny, none, api.ErrRange)
		// That there is no such key is told first.
		wantSet(t, l, 2, deny, none, api.ErrNone)
		wantSet(t, l, -1, deny, none, api.ErrNone)
		wantSet(t, l, 4, deny, none, api.ErrNone)
	}
}

func TestNumbersThatAreNoKeys(t *testing.T) {
	full := table{on(3), on(3), on(3), on(3)}
	for _, l := range []table{none, keys.First(), full} {
		for _, k := range far {
			wantFree(t, l, k, none, api.ErrNone)
			for _, deny := range numbers() {
				wantSet(t, l, k, deny, none, api.ErrNone)
			}
		}
	}
}

// TestAllLists holds all calls, of all keys that there are, against the model.
func TestAllLists(t *testing.T) {
	for _, l := range lists() {
		modelNew(t, l)
		for k := -1; k <= 4; k++ {
			modelFree(t, l, k)
			for deny := -1; deny <= 8; deny++ {
				modelSet(t, l, k, deny)
			}
		}
	}
}

// TestKeysDoNotKnowOfEachOther changes one key, and looks at all the others.
func TestKeysDoNotKnowOfEachOther(t *testing.T) {
	for _, l := range lists() {
		for k := range 4 {
			set, e := keys.Set(l, k, 3)
			if e != api.OK {
				continue
			}
			free, _ := keys.Free(l, k)
			for i := range 4 {
				if i != k && set[i] != l[i] || i != k && k > 0 && free[i] != l[i] {
					t.Fatalf("key %d of %v hangs on key %d", i, l, k)
				}
			}
		}
	}
}

// TestWhatWasTakenAndFreedIsAsItWas gives a new key back, whatever was set.
func TestWhatWasTakenAndFreedIsAsItWas(t *testing.T) {
	first := keys.First()
	for deny := range 4 {
		l, k, _ := keys.New(first)
		l, _ = keys.Set(l, k, deny)
		wantFree(t, l, k, first, api.OK)
		wantNew(t, first, table{{Taken: true}, {Taken: true}}, 1, api.OK)
	}
}

// TestTheLeastFreedKeyComesFirst frees two keys, and takes them again.
func TestTheLeastFreedKeyComesFirst(t *testing.T) {
	l := table{{Taken: true}, on(1), on(2), on(3)}
	l, _ = keys.Free(l, 3)
	l, _ = keys.Free(l, 1)
	wantNew(t, l, table{{Taken: true}, {Taken: true}, on(2), {}}, 1, api.OK)
	l, _, _ = keys.New(l)
	wantNew(t, l, table{{Taken: true}, {Taken: true}, on(2), {Taken: true}}, 3, api.OK)
}

// TestWhatIsSetIsDenied holds what Set says against the faults of pages that
// have the key.
func TestWhatIsSetIsDenied(t *testing.T) {
	l, k, _ := keys.New(keys.First())
	for deny := range 4 {
		l, e := keys.Set(l, k, deny)
		if e != api.OK {
			t.Fatalf("Set to %d: %d", deny, e)
		}
		for _, way := range []int{api.Read, api.Write, api.Exec} {
			must := 0
			if deny&way != 0 {
				must = api.FaultKey
			}
			if got := check.Page(api.Attr{Rights: way, Key: k}, l, way); got != must {
				t.Errorf("way %d, of a key that denies %d: %d; want %d", way, deny, got, must)
			}
			if got := check.Page(api.Attr{Rights: way}, l, way); got != 0 {
				t.Errorf("way %d, of key 0: %d; want 0", way, got)
			}
		}
	}
}

func TestNothingIsKept(t *testing.T) {
	l := keys.First()
	l[1] = api.Key{Taken: true, Deny: 3}
	got, _, _ := keys.New(l)
	got[3] = api.Key{Taken: true, Deny: 2}
	if again := keys.First(); again != (table{{Taken: true}}) {
		t.Errorf("First, once more: %v", again)
	}
	wantNew(t, l, table{{Taken: true}, on(3), {Taken: true}, {}}, 2, api.OK)
}

// FuzzAll makes keys of four numbers, and holds all calls against the model.
func FuzzAll(f *testing.F) {
	f.Add(uint8(1), 0, 0, 0, 0, 1, 3)
	f.Add(uint8(15), 1, 2, 3, math.MinInt, 4, -1)
	f.Add(uint8(10), -1, 2, 4, 0, 3, 4)
	f.Fuzz(func(t *testing.T, bits uint8, a, b, c, d, k, deny int) {
		l := table{{Deny: a}, {Deny: b}, {Deny: c}, {Deny: d}}
		for i := range l {
			l[i].Taken = bits>>i&1 == 1
		}
		modelNew(t, l)
		for _, k := range []int{k, k & 3} {
			modelFree(t, l, k)
			modelSet(t, l, k, deny)
			modelSet(t, l, k, deny&3)
		}
	})
}
