package check_test

import (
	"math"
	"slices"
	"testing"

	"framewarden/api"
	"framewarden/check"
)

// far are numbers that are no rights, no ways, no keys and no tags; some
// would be, were they cut to fewer bits.
var far = []int{math.MinInt, math.MinInt + 1, math.MinInt + 4, math.MinInt32, -1 << 40, -256, -255, -16, -9, -8, -7, -6, -5, -4, -3, -2, -1, 8, 9, 10, 12, 15, 16, 255, 256, 257, 258, 260, 1 << 16, 1 << 31, 1 << 32, 1<<32 + 1, 1<<32 + 2, 1<<32 + 4, 1 << 62, math.MaxInt - 4, math.MaxInt - 1, math.MaxInt}

// near are all numbers from -9 to 17.
func near() []int {
	var l []int
	for n := -9; n <= 17; n++ {
		l = append(l, n)
	}
	return l
}

func wantWrong(t *testing.T, rights int, must api.Errno) {
	t.Helper()
	if got := check.Wrong(rights); got != must {
		t.Errorf("Wrong of %d: %d; want %d", rights, got, must)
	}
}

func wantPage(t *testing.T, a api.Attr, keys [4]api.Key, way, must int) {
	t.Helper()
	if got := check.Page(a, keys, way); got != must {
		t.Errorf("Page of %v, %v, way %d: %d; want %d", a, keys, way, got, must)
	}
}

func wantTags(t *testing.T, a api.Attr, way int, tags []int, tag, fault, place int) {
	t.Helper()
	if f, k := check.Tags(a, way, tags, tag); f != fault || k != place {
		t.Errorf("Tags of %v, way %d, %v, tag %d: %d, %d; want %d, %d", a, way, tags, tag, f, k, fault, place)
	}
}

// bit tells whether n has its bit number i, for numbers below 0 too.
func bit(n, i int) bool { return uint(n)>>i%2 == 1 }

// model has Page's answer: what the bits of Rights and of Deny say, each by
// its number.
func model(a api.Attr, keys [4]api.Key, way int) int {
	at, ok := map[int]int{1: 0, 2: 1, 4: 2}[way]
	if !ok || !bit(a.Rights, at) {
		return 2
	}
	if way == 4 {
		return 0
	}
	for k, x := range keys {
		if k == a.Key && !bit(x.Deny, at) {
			return 0
		}
	}
	return 3
}

func TestTheDocumentsExample(t *testing.T) {
	keys := [4]api.Key{0: {Taken: true}, 2: {Taken: true, Deny: api.Read}}
	a := api.Attr{Rights: api.Read | api.Write, Key: 2}
	wantPage(t, a, keys, api.Read, api.FaultKey)
	wantPage(t, a, keys, api.Write, 0)
}

func TestWrongOfAllRights(t *testing.T) {
	for rights, must := range []api.Errno{0, 0, 0, 0, 0, 0, api.ErrRole, api.ErrRole} {
		wantWrong(t, rights, must)
	}
	wantWrong(t, api.Write|api.Exec, api.ErrRole)
	wantWrong(t, api.Read|api.Exec, api.OK)
	wantWrong(t, api.Read|api.Write, api.OK)
}

func TestWrongOfWhatAreNoRights(t *testing.T) {
	wantWrong(t, -1, api.ErrRange)
	wantWrong(t, 8, api.ErrRange)
	// Both errors fit some of these: ErrRange is named first.
	for _, rights := range far {
		wantWrong(t, rights, api.ErrRange)
	}
}

func TestPageByItsRights(t *testing.T) {
	var keys [4]api.Key
	for rights := range 8 {
		for at, way := range []int{api.Read, api.Write, api.Exec} {
			must := api.FaultRight
			if bit(rights, at) {
				must = 0
			}
			wantPage(t, api.Attr{Rights: rights}, keys, way, must)
		}
	}
}

func TestPageOfNoSuchWay(t *testing.T) {
	ways := append([]int{0, 3, 5, 6, 7}, far...)
	for _, way := range ways {
		for _, rights := range []int{0, 1, 2, 3, 4, 5, 6, 7, -1, way, math.MaxInt} {
			for _, key := range []int{-1, 0, 1, 3, 4} {
				wantPage(t, api.Attr{Rights: rights, Key: key}, [4]api.Key{}, way, api.FaultRight)
				wantPage(t, api.Attr{Rights: rights, Key: key}, [4]api.Key{{Deny: 7}, {Deny: -1}}, way, api.FaultRight)
			}
		}
	}
}

func TestPageByItsKey(t *testing.T) {
	for deny := range 4 {
		for key := range 4 {
			var keys [4]api.Key
			keys[key].Deny = deny
			for at, way := range []int{api.Read, api.Write} {
				for of := range 4 {
					must := 0
					if of == key && bit(deny, at) {
						must = api.FaultKey
					}
					wantPage(t, api.Attr{Rights: 3, Key: of}, keys, way, must)
				}
			}
		}
	}
}

func TestPageOfNoSuchKey(t *testing.T) {
	for _, key := range append([]int{-1, 4, 5}, far...) {
		a := api.Attr{Rights: 7, Key: key}
		wantPage(t, a, [4]api.Key{}, api.Read, api.FaultKey)
		wantPage(t, a, [4]api.Key{}, api.Write, api.FaultKey)
		wantPage(t, a, [4]api.Key{}, api.Exec, 0)
	}
}

func TestKeysDoNotHinderRunning(t *testing.T) {
	keys := [4]api.Key{{Deny: 4}, {Deny: 7}, {Deny: -1}, {Deny: math.MaxInt}}
	for key := -2; key < 7; key++ {
		wantPage(t, api.Attr{Rights: api.Exec, Key: key}, keys, api.Exec, 0)
		wantPage(t, api.Attr{Rights: api.Read, Key: key}, keys, api.Exec, api.FaultRight)
	}
}

func TestRightsAreToldAheadOfKeys(t *testing.T) {
	keys := [4]api.Key{{Deny: 3}, {Deny: 3}, {Deny: 3}, {Deny: 3}}
	for key := -1; key < 5; key++ {
		wantPage(t, api.Attr{Rights: api.Write, Key: key}, keys, api.Read, api.FaultRight)
		wantPage(t, api.Attr{Rights: api.Read, Key: key}, keys, api.Write, api.FaultRight)
		wantPage(t, api.Attr{Rights: api.Read, Key: key}, keys, api.Read, api.FaultKey)
	}
}

func TestOnlyRightsKeyAndDenyTellOfAPage(t *testing.T) {
	for n := range 16 {
		a := api.Attr{Rights: 3, Key: 1, Tagged: bit(n, 0), Sealed: bit(n, 1)}
		keys := [4]api.Key{1: {Taken: bit(n, 2), Deny: api.Write}, 2: {Taken: bit(n, 3), Deny: 7}}
		wantPage(t, a, keys, api.Read, 0)
		wantPage(t, a, keys, api.Write, api.FaultKey)
		wantPage(t, a, keys, api.Exec, api.FaultRight)
	}
}

func TestPageOfAllNumbersAsTheModelHasThem(t *testing.T) {
	numbers := append(near(), far...)
	for _, rights := range numbers {
		for _, deny := range numbers {
			keys := [4]api.Key{{}, {Deny: deny}, {Taken: true}, {Taken: true, Deny: deny}}
			for key := -1; key < 5; key++ {
				a := api.Attr{Rights: rights, Key: key}
				for way := -1; way < 10; way++ {
					wantPage(t, a, keys, way, model(a, keys, way))
				}
			}
		}
	}
}

func TestMoreRightsNeverFaultMore(t *testing.T) {
	keys := [4]api.Key{{}, {Deny: 1}, {Deny: 2}, {Deny: 3}}
	for less := range 8 {
		for more := range 8 {
			if less&^more != 0 {
				continue
			}
			for key := -1; key < 5; key++ {
				for way := range 9 {
					if check.Page(api.Attr{Rights: less, Key: key}, keys, way) == 0 {
						wantPage(t, api.Attr{Rights: more, Key: key}, keys, way, 0)
					}
				}
			}
		}
	}
}

func TestThePlaceOfTheFirstOtherTag(t *testing.T) {
	a := api.Attr{Tagged: true}
	for n := range 9 {
		for first := range n {
			tags := slices.Repeat([]int{9}, n)
			tags[first] = 8
			wantTags(t, a, api.Read, tags, 9, api.FaultTag, first)
			wantTags(t, a, api.Write, tags, 9, api.FaultTag, first)
			// Others behind it change nothing.
			for i := first; i < n; i++ {
				tags[i] = 10
			}
			wantTags(t, a, api.Read, tags, 9, api.FaultTag, first)
		}
	}
}

func TestTagsThatAreAllAlike(t *testing.T) {
	a := api.Attr{Tagged: true}
	for tag := range 16 {
		for n := range 6 {
			wantTags(t, a, api.Read, slices.Repeat([]int{tag}, n), tag, 0, 0)
			wantTags(t, a, api.Write, slices.Repeat([]int{tag}, n), tag, 0, 0)
		}
	}
}

func TestNoTagsAreAllAlike(t *testing.T) {
	for _, tags := range [][]int{nil, {}, make([]int, 0, 5)} {
		for _, tag := range append(near(), far...) {
			wantTags(t, api.Attr{Tagged: true}, api.Read, tags, tag, 0, 0)
		}
	}
}

func TestTagsOfAPageThatIsNotTagged(t *testing.T) {
	for _, way := range append(near(), far...) {
		wantTags(t, api.Attr{Rights: 7, Key: 1, Sealed: true}, way, []int{1, 2, 3}, 4, 0, 0)
	}
}

func TestTagsDoNotHinderRunning(t *testing.T) {
	wantTags(t, api.Attr{Tagged: true}, api.Exec, []int{1, 2, 3}, 4, 0, 0)
	wantTags(t, api.Attr{Tagged: true}, api.Exec, []int{4, 2}, 4, 0, 0)
	// Only Exec itself is so; a number that has its bit is not.
	for _, way := range append(near(), far...) {
		if way != api.Exec {
			wantTags(t, api.Attr{Tagged: true}, way, []int{4, 2}, 4, api.FaultTag, 1)
		}
	}
}

func TestOnlyTaggedTellsOfTags(t *testing.T) {
	for rights := -1; rights < 9; rights++ {
		for key := -1; key < 5; key++ {
			a := api.Attr{Rights: rights, Key: key, Tagged: true, Sealed: key%2 == 0}
			wantTags(t, a, api.Write, []int{5, 5, 6}, 5, api.FaultTag, 2)
			wantTags(t, a, api.Write, []int{5, 5, 5}, 5, 0, 0)
		}
	}
}

func TestTagsAreNotHeldToAnyBound(t *testing.T) {
	a := api.Attr{Tagged: true}
	numbers := append(near(), far...)
	for _, x := range numbers {
		for _, y := range numbers {
			if x == y {
				wantTags(t, a, api.Read, []int{x, y}, x, 0, 0)
				continue
			}
			wantTags(t, a, api.Read, []int{x, y}, x, api.FaultTag, 1)
			wantTags(t, a, api.Read, []int{x, y}, y, api.FaultTag, 0)
		}
	}
}

func TestManyTags(t *testing.T) {
	tags := slices.Repeat([]int{3}, 1<<20)
	wantTags(t, api.Attr{Tagged: true}, api.Read, tags, 3, 0, 0)
	tags[1<<20-1] = 4
	wantTags(t, api.Attr{Tagged: true}, api.Read, tags, 3, api.FaultTag, 1<<20-1)
}

func TestSpareRoomIsNeitherSeenNorChanged(t *testing.T) {
	tags := []int{7, 7, 7, 1, 2, 3}
	for n := range 4 {
		wantTags(t, api.Attr{Tagged: true}, api.Read, tags[:n], 7, 0, 0)
	}
	wantTags(t, api.Attr{Tagged: true}, api.Write, tags[2:5], 7, api.FaultTag, 1)
	if !slices.Equal(tags, []int{7, 7, 7, 1, 2, 3}) {
		t.Error("what was handed in, or the room behind it, was changed")
	}
}

func FuzzPage(f *testing.F) {
	f.Add(3, 2, 1, 1)
	f.Add(7, -1, 3, 4)
	f.Add(-1, 4, 0, 2)
	f.Fuzz(func(t *testing.T, rights, key, deny, way int) {
		a := api.Attr{Rights: rights, Key: key}
		keys := [4]api.Key{{Deny: deny}, {Deny: ^deny}, {Taken: true, Deny: deny >> 1}, {Deny: deny << 1}}
		wantPage(t, a, keys, way, model(a, keys, way))
	})
}
