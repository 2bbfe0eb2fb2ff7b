package reg_test

import (
	"fmt"
	"math"
	"math/rand"
	"slices"
	"testing"

	"splittally/api"
	"splittally/reg"
)

// most is the greatest number of an entry (MaxCount), written out.
const most = 1048576

// noCounts are no numbers of an entry: next to the ends, what wraps round to one, the ends of all numbers.
var noCounts = []int{-1, -2, -most, most + 1, most + 2, 2 * most, 1 << 32, 1<<32 + 1, -1 << 32, math.MaxInt, math.MinInt, math.MinInt + 1}

// noBranches are no Who of an entry.
var noBranches = append([]int{8, 9, 16, 255, 256, most - 1, most}, noCounts...)

func note(key, value, time, who int) api.Entry {
	return api.Entry{Key: key, Value: value, Time: time, Who: who}
}

func gone(key, time, who int) api.Entry {
	return api.Entry{Key: key, Time: time, Who: who, Gone: true}
}

func many(l ...api.Entry) []api.Entry { return l }

// at are entries that may be, of these keys.
func at(keys ...int) []api.Entry {
	var l []api.Entry
	for _, key := range keys {
		l = append(l, note(key, 3, 5, 1))
	}
	return l
}

// from are so many keys, one behind the other.
func from(key, count int) []int {
	var keys []int
	for i := range count {
		keys = append(keys, key+i)
	}
	return keys
}

func isMay(t *testing.T, l []api.Entry, want bool) {
	t.Helper()
	if got := reg.May(l); got != want {
		t.Errorf("May(%v): %v, want %v", l, got, want)
	}
}

func isNewer(t *testing.T, a, b api.Entry, want bool) {
	t.Helper()
	if got := reg.Newer(a, b); got != want {
		t.Errorf("Newer(%v, %v): %v, want %v", a, b, got, want)
	}
}

func isMerge(t *testing.T, a, b, want []api.Entry, code api.Errno) {
	t.Helper()
	if got, e := reg.Merge(a, b); !slices.Equal(got, want) || e != code {
		t.Errorf("Merge(%v, %v): %v %d, want %v %d", a, b, got, e, want, code)
	}
}

// isMergeBoth checks a merge, whichever stands first.
func isMergeBoth(t *testing.T, a, b, want []api.Entry, code api.Errno) {
	t.Helper()
	isMerge(t, a, b, want, code)
	isMerge(t, b, a, want, code)
}

func isLive(t *testing.T, l, want []api.Entry, code api.Errno) {
	t.Helper()
	if got, e := reg.Live(l); !slices.Equal(got, want) || e != code {
		t.Errorf("Live(%v): %v %d, want %v %d", l, got, e, want, code)
	}
}

// isWrong checks that all of the package refuse entries.
func isWrong(t *testing.T, l []api.Entry) {
	t.Helper()
	isMay(t, l, false)
	isLive(t, l, nil, api.ErrForm)
	isMergeBoth(t, l, nil, nil, api.ErrForm)
	isMergeBoth(t, l, at(100), nil, api.ErrForm)
	isMerge(t, l, l, nil, api.ErrForm)
}

// isRight checks that entries, none of them Gone, are taken by all of the package.
func isRight(t *testing.T, l []api.Entry) {
	t.Helper()
	isMay(t, l, true)
	isLive(t, l, l, api.OK)
	isMergeBoth(t, l, nil, l, api.OK)
	isMerge(t, l, l, l, api.OK)
}

func TestEntriesByTheirCount(t *testing.T) { // P4.1
	isRight(t, nil)
	isRight(t, []api.Entry{})
	for n := 1; n <= 8; n++ {
		isRight(t, at(from(0, n)...))
		isRight(t, at(from(most-n+1, n)...))
	}
	for _, n := range []int{9, 10, 16, 256, 257, 65536, 100000} {
		isWrong(t, at(from(0, n)...))
	}
}

// numbers are the numbers of an entry, each with a name and a way to write it.
var numbers = []struct {
	name   string
	write  func(e *api.Entry, n int)
	rights []int
	wrongs []int
}{
	{"Key", func(e *api.Entry, n int) { e.Key = n }, []int{0, 1, 7, 8, 255, 256, 65536, most - 1, most}, noCounts},
	{"Value", func(e *api.Entry, n int) { e.Value = n }, []int{0, 1, 7, 8, 255, 256, 65536, most - 1, most}, noCounts},
	{"Time", func(e *api.Entry, n int) { e.Time = n }, []int{0, 1, 7, 8, 255, 256, 65536, most - 1, most}, noCounts},
	{"Who", func(e *api.Entry, n int) { e.Who = n }, []int{0, 1, 2, 3, 4, 5, 6, 7}, noBranches},
}

func TestEntriesByEachNumber(t *testing.T) { // P4.1
	isRight(t, many(api.Entry{}))
	isRight(t, many(note(most, most, most, 7)))
	for _, number := range numbers {
		t.Run(number.name, func(t *testing.T) {
			for _, n := range number.rights {
				e := note(3, 3, 3, 3)
				number.write(&e, n)
				isRight(t, many(e))
			}
			for _, n := range number.wrongs {
				e := note(3, 3, 3, 3)
				number.write(&e, n)
				isWrong(t, many(e))
				e = gone(3, 3, 3)
				number.write(&e, n)
				isWrong(t, many(e))
			}
		})
	}
}

func TestEachOfManyEntriesIsAsked(t *testing.T) { // P4.1
	for n := 1; n <= 8; n++ {
		for place := range n {
			// A wrong Key would not ascend either: it is tested alone.
			for _, number := range numbers[1:] {
				for _, wrong := range number.wrongs {
					l := at(from(0, n)...)
					number.write(&l[place], wrong)
					isWrong(t, l)
				}
			}
			l := at(from(0, n)...)
			l[place].Gone = true
			isWrong(t, l)
		}
		// These ascend as they should.
		l := at(from(0, n)...)
		for _, low := range []int{-1, -2, math.MinInt} {
			l[0].Key = low
			isWrong(t, l)
		}
		l = at(from(0, n)...)
		for _, high := range []int{most + 1, 2 * most, math.MaxInt} {
			l[n-1].Key = high
			isWrong(t, l)
		}
	}
}

func TestWhatIsGoneHasNoValue(t *testing.T) { // P4.1
	for _, key := range []int{0, 1, most} {
		for _, time := range []int{0, 1, most} {
			for _, who := range []int{0, 1, 7} {
				e := gone(key, time, who)
				isMay(t, many(e), true)
				isLive(t, many(e), nil, api.OK)
				isMergeBoth(t, many(e), nil, many(e), api.OK)
				for _, value := range append([]int{1, 2, 255, 256, most - 1, most}, noCounts...) {
					e.Value = value
					isWrong(t, many(e))
				}
			}
		}
	}
}

func TestKeysAscend(t *testing.T) { // P4.1
	isRight(t, at(0, 1))
	isRight(t, at(0, most))
	isRight(t, at(2, 3, 5, 7, 11, 13, 17, 19))
	isWrong(t, at(1, 0))
	isWrong(t, at(most, 0))
	isWrong(t, at(0, 0))
	isWrong(t, at(most, most))
	isWrong(t, at(8, 7, 6, 5, 4, 3, 2, 1))
	// Not only of neighbours: one that stood further ahead.
	isWrong(t, at(1, 2, 1))
	isWrong(t, at(1, 3, 2))
	isWrong(t, at(2, 3, 1))
	for n := 2; n <= 8; n++ {
		for place := 1; place < n; place++ {
			for back := 1; back <= place; back++ {
				l := at(from(0, n)...)
				l[place].Key = l[place-back].Key
				isWrong(t, l)
			}
			l := at(from(0, n)...)
			l[place], l[place-1] = l[place-1], l[place]
			isWrong(t, l)
		}
	}
	// The same key, whatever else they have.
	isWrong(t, many(note(4, 1, 1, 1), note(4, 2, 2, 2)))
	isWrong(t, many(note(4, 1, 1, 1), gone(4, 2, 2)))
	// Time, Who and Value need not ascend.
	isRight(t, many(note(0, 9, 9, 7), note(1, 8, 9, 6), note(2, 8, 5, 6), note(3, 0, 0, 0)))
}

func TestNewerWrittenOut(t *testing.T) { // P4.2
	for _, c := range []struct {
		a, b        api.Entry
		there, back bool
	}{
		{api.Entry{}, api.Entry{}, false, false},
		{note(1, 5, 2, 1), note(1, 5, 2, 1), false, false},
		{gone(1, 2, 1), gone(1, 2, 1), false, false},
		{note(most, most, most, 7), note(most, most, most, 7), false, false},
		// In one alone.
		{note(1, 5, 3, 1), note(1, 5, 2, 1), true, false},
		{note(1, 5, most, 1), note(1, 5, most-1, 1), true, false},
		{note(1, 5, 1, 1), note(1, 5, 0, 1), true, false},
		{note(1, 5, 2, 2), note(1, 5, 2, 1), true, false},
		{note(1, 5, 2, 7), note(1, 5, 2, 0), true, false},
		{note(1, 0, 2, 1), gone(1, 2, 1), true, false},
		{note(1, 6, 2, 1), note(1, 5, 2, 1), true, false},
		{note(1, most, 2, 1), note(1, most-1, 2, 1), true, false},
		// What is named first is asked first.
		{note(1, 0, 3, 0), note(1, 9, 2, 7), true, false},
		{gone(1, 3, 0), note(1, 9, 2, 7), true, false},
		{note(1, 0, 2, 2), note(1, 9, 2, 1), true, false},
		{gone(1, 2, 2), note(1, 9, 2, 1), true, false},
		{note(1, 5, 2, 1), gone(1, 2, 1), true, false},
		// The key is none of what is asked.
		{note(9, 5, 2, 1), note(1, 5, 2, 1), false, false},
		{note(9, 5, 2, 1), note(1, 5, 3, 1), false, true},
	} {
		isNewer(t, c.a, c.b, c.there)
		isNewer(t, c.b, c.a, c.back)
	}
}

// rank is what is asked of an entry, in the order named: the greater list is of what is newer.
func rank(e api.Entry) []int {
	here := 1
	if e.Gone {
		here = 0
	}
	return []int{e.Time, e.Who, here, e.Value}
}

// someEntries are entries of all of these numbers, some of which may not be.
func someEntries(keys, values, times, whos []int) []api.Entry {
	var l []api.Entry
	for _, key := range keys {
		for _, value := range values {
			for _, time := range times {
				for _, who := range whos {
					for _, is := range []bool{false, true} {
						l = append(l, api.Entry{Key: key, Value: value, Time: time, Who: who, Gone: is})
					}
				}
			}
		}
	}
	return l
}

func TestNewerOfAllPairs(t *testing.T) { // P4.2
	for _, all := range [][]api.Entry{
		someEntries([]int{0, 1}, []int{0, 1, 2}, []int{0, 1, most}, []int{0, 1, 7}),
		// What may not be is asked as all else: also where a difference would leave 64 bits.
		someEntries([]int{-1, most + 1}, []int{math.MinInt, 0, math.MaxInt}, []int{math.MinInt, -1, math.MaxInt}, []int{math.MinInt, 8, math.MaxInt}),
	} {
		for _, a := range all {
			for _, b := range all {
				isNewer(t, a, b, slices.Compare(rank(a), rank(b)) > 0)
			}
		}
	}
}

func TestNewerOfWhatMayNotBe(t *testing.T) { // P4.2
	for _, number := range numbers[1:] {
		for _, n := range number.wrongs {
			a, b := note(3, 3, 3, 3), note(3, 3, 3, 3)
			number.write(&a, n)
			isNewer(t, a, b, n > 3)
			isNewer(t, b, a, n < 3)
			isNewer(t, a, a, false)
		}
	}
	for _, n := range noCounts {
		a, b := note(n, 3, 3, 3), note(3, 3, 3, 3)
		isNewer(t, a, b, false)
		isNewer(t, b, a, false)
	}
	// Both are Gone with a Value: it is asked all the same.
	a := api.Entry{Value: 2, Gone: true}
	b := api.Entry{Value: 1, Gone: true}
	isNewer(t, a, b, true)
	isNewer(t, b, a, false)
	isNewer(t, a, a, false)
	isNewer(t, api.Entry{Value: 9, Gone: true}, api.Entry{Value: -9}, false)
	isNewer(t, api.Entry{Value: -9}, api.Entry{Value: 9, Gone: true}, true)
}

func TestMergesWrittenOut(t *testing.T) { // P4.3
	for _, c := range []struct{ a, b, want []api.Entry }{
		{nil, nil, nil},
		{[]api.Entry{}, nil, nil},
		{nil, many(note(1, 5, 2, 1)), many(note(1, 5, 2, 1))},
		{[]api.Entry{}, many(gone(1, 2, 1)), many(gone(1, 2, 1))},
		// No key in common: behind, between, and in turn.
		{at(0, 1), at(2, 3), at(0, 1, 2, 3)},
		{at(0, 9), at(4, 5), at(0, 4, 5, 9)},
		{at(0, 2, 4, 6), at(1, 3, 5, 7), at(0, 1, 2, 3, 4, 5, 6, 7)},
		{at(0), at(most), at(0, most)},
		// All keys in common: one of each, wherever it stood.
		{at(1, 2, 3), at(1, 2, 3), at(1, 2, 3)},
		{
			many(note(1, 5, 2, 1), note(2, 5, 2, 1), note(3, 5, 2, 1), gone(4, 2, 1), note(5, 5, 2, 1), note(6, 5, 2, 1)),
			many(note(1, 4, 3, 0), note(2, 4, 2, 2), gone(3, 2, 1), note(4, 0, 2, 1), note(5, 6, 2, 1), gone(6, 3, 0)),
			many(note(1, 4, 3, 0), note(2, 4, 2, 2), note(3, 5, 2, 1), note(4, 0, 2, 1), note(5, 6, 2, 1), gone(6, 3, 0)),
		},
		// Some: the newer one of what both have, all of the others.
		{
			many(note(1, 5, 2, 1), gone(3, 1, 0)),
			many(note(1, 4, 2, 2)),
			many(note(1, 4, 2, 2), gone(3, 1, 0)),
		},
		{
			many(note(0, 1, 9, 0), note(2, 1, 9, 0), note(4, 1, 9, 0)),
			many(note(1, 2, 1, 0), note(2, 2, 1, 0), note(4, 2, 9, 1), note(5, 2, 1, 0)),
			many(note(0, 1, 9, 0), note(1, 2, 1, 0), note(2, 1, 9, 0), note(4, 2, 9, 1), note(5, 2, 1, 0)),
		},
		// What was taken away stays in the list, so that nothing older comes back.
		{many(note(7, 5, 2, 1)), many(gone(7, 3, 1)), many(gone(7, 3, 1))},
		{many(note(7, 5, 4, 1)), many(gone(7, 3, 1)), many(note(7, 5, 4, 1))},
		// At the ends of their numbers.
		{many(note(most, 0, most, 7)), many(note(most, most, most, 6)), many(note(most, 0, most, 7))},
		{many(note(0, 0, 0, 0)), many(gone(0, 0, 0)), many(note(0, 0, 0, 0))},
	} {
		isMergeBoth(t, c.a, c.b, c.want, api.OK)
	}
}

// merged is a merge by the words of the document: of each key that is there the entry of the greatest rank.
func merged(lists ...[]api.Entry) []api.Entry {
	var all, out []api.Entry
	for _, l := range lists {
		all = append(all, l...)
	}
	for key := range 20 {
		var best []api.Entry
		for _, e := range all {
			if e.Key == key && (len(best) == 0 || slices.Compare(rank(e), rank(best[0])) > 0) {
				best = many(e)
			}
		}
		out = append(out, best...)
	}
	return out
}

// anyEntries takes entries of keys below a number by chance, the same at each run.
func anyEntries(r *rand.Rand, keys int) []api.Entry {
	var l []api.Entry
	for key := range keys {
		if r.Intn(2) == 0 || len(l) == 8 {
			continue
		}
		e := note(key, r.Intn(3), r.Intn(3), r.Intn(3))
		if r.Intn(3) == 0 {
			e = gone(key, r.Intn(3), r.Intn(3))
		}
		l = append(l, e)
	}
	return l
}

func TestManyMerges(t *testing.T) { // P4.3
	r := rand.New(rand.NewSource(4))
	full := 0
	for range 20000 {
		keys := 1 + r.Intn(16)
		a, b := anyEntries(r, keys), anyEntries(r, keys)
		want, code := merged(a, b), api.OK
		if len(want) > 8 {
			want, code = nil, api.ErrFull
			full++
		}
		isMergeBoth(t, a, b, want, code)
	}
	if full < 1000 || full > 19000 {
		t.Errorf("%d of the merges were too great: the lists are badly chosen", full)
	}
}

func TestOfOneKeyAllPairsMerge(t *testing.T) { // P4.3
	all := slices.DeleteFunc(someEntries([]int{5}, []int{0, 1, most}, []int{0, 1, most}, []int{0, 1, 7}), func(e api.Entry) bool { return e.Gone && e.Value != 0 })
	for _, a := range all {
		for _, b := range all {
			isMerge(t, many(a), many(b), merged(many(a), many(b)), api.OK)
			isMerge(t, many(note(4, 1, 1, 1), a), many(b, note(6, 1, 1, 1)), merged(many(note(4, 1, 1, 1), a), many(b, note(6, 1, 1, 1))), api.OK)
		}
	}
}

func TestMergesByTheirCountOfKeys(t *testing.T) { // P4.3
	for n := 0; n <= 8; n++ {
		for m := 0; m <= 8; m++ {
			for common := 0; common <= min(n, m); common++ {
				count := n + m - common
				a, b := at(from(10, n)...), at(from(10+n-common, m)...)
				if count <= 8 {
					isMergeBoth(t, a, b, at(from(10, count)...), api.OK)
				} else {
					isMergeBoth(t, a, b, nil, api.ErrFull)
				}
			}
		}
	}
	eight := at(0, 10, 20, 30, 40, 50, 60, 70)
	isMerge(t, eight, eight, eight, api.OK)
	for _, key := range []int{1, 15, 25, 65, 71, most} {
		isMergeBoth(t, eight, at(key), nil, api.ErrFull)
		isMergeBoth(t, eight, many(gone(key, 0, 0)), nil, api.ErrFull)
	}
	// What is Gone takes as much room as all else.
	for i := range eight {
		eight[i] = gone(eight[i].Key, 1, 1)
	}
	isMergeBoth(t, eight, at(1), nil, api.ErrFull)
	isMergeBoth(t, eight, nil, eight, api.OK)
}

// wrongEntries are entries that may not be, each for another cause.
func wrongEntries() [][]api.Entry {
	wrong := [][]api.Entry{
		at(1, 0), at(3, 3), at(0, 2, 1), at(0, 1, 2, 3, 4, 5, 6, 6), at(from(0, 9)...), at(from(0, 1000)...),
		{{Value: 1, Gone: true}},
	}
	for _, number := range numbers {
		for _, n := range number.wrongs {
			e := note(3, 3, 3, 3)
			number.write(&e, n)
			wrong = append(wrong, many(e))
		}
	}
	return wrong
}

func TestTheFormIsToldAheadOfTheRoom(t *testing.T) { // P4.3
	wrong := wrongEntries()
	for _, a := range wrong {
		isWrong(t, a)
		for n := 0; n <= 8; n++ {
			isMergeBoth(t, a, at(from(100, n)...), nil, api.ErrForm)
			isMergeBoth(t, a, at(from(0, n)...), nil, api.ErrForm)
		}
		for _, b := range wrong {
			isMerge(t, a, b, nil, api.ErrForm)
		}
	}
	// Eight of which one is wrong, and eight others.
	for place := range 8 {
		for _, number := range numbers[1:] {
			l := at(from(0, 8)...)
			number.write(&l[place], -1)
			isMergeBoth(t, l, at(from(8, 8)...), nil, api.ErrForm)
		}
	}
}

func TestMergedInWhateverOrderAndHoweverOften(t *testing.T) { // what comes of P4.3
	r := rand.New(rand.NewSource(5))
	for range 300 {
		var lists [][]api.Entry
		for range 5 {
			lists = append(lists, anyEntries(r, 8))
		}
		want := merged(lists...)
		for range 10 {
			order := r.Perm(5)
			// Some of them again.
			order = append(order, order[r.Intn(5)], order[r.Intn(5)])
			var one []api.Entry
			for _, i := range order {
				one, _ = reg.Merge(one, lists[i])
			}
			left, _ := reg.Merge(lists[order[0]], lists[order[1]])
			right, _ := reg.Merge(lists[order[2]], lists[order[3]])
			two, _ := reg.Merge(right, lists[order[4]])
			two, _ = reg.Merge(two, left)
			if !slices.Equal(one, want) || !slices.Equal(two, want) {
				t.Errorf("of %v in the order %v: %v and %v, want %v", lists, order, one, two, want)
			}
		}
	}
}

func TestLive(t *testing.T) { // P4.3
	isLive(t, nil, nil, api.OK)
	isLive(t, []api.Entry{}, nil, api.OK)
	isLive(t, many(gone(0, 0, 0)), nil, api.OK)
	isLive(t, many(note(0, 0, 0, 0)), many(note(0, 0, 0, 0)), api.OK)
	isLive(t, many(note(1, 5, 2, 1), gone(3, 1, 0)), many(note(1, 5, 2, 1)), api.OK)
	isLive(t, many(gone(1, 2, 1), gone(2, 2, 1), note(3, 1, 0, 0)), many(note(3, 1, 0, 0)), api.OK)
	// Each choice of what is Gone of up to MaxKeys, none and all of them too.
	for n := 0; n <= 8; n++ {
		for choice := range 1 << n {
			var l, want []api.Entry
			for key := range n {
				e := gone(key, key, 7-key)
				if choice>>key&1 == 1 {
					e = note(key, key%2, key, 7-key)
					want = append(want, e)
				}
				l = append(l, e)
			}
			isLive(t, l, want, api.OK)
		}
	}
}

func TestListsAndTheRoomBehindThemAreLeft(t *testing.T) { // 'What holds everywhere'
	r := rand.New(rand.NewSource(6))
	lists := append(wrongEntries()[:7], nil, at(0, 1, 2), at(7, 8, 9), at(from(0, 8)...), at(from(20, 8)...), many(gone(0, 9, 0), gone(1, 9, 0), note(2, 9, 9, 0)))
	for range 40 {
		lists = append(lists, anyEntries(r, 8))
	}
	for _, first := range lists {
		for _, second := range lists {
			a := append(slices.Clone(first), at(71, 72, 73, 74, 75, 76, 77, 78)...)
			b := append(slices.Clone(second), at(81, 82, 83, 84, 85, 86, 87, 88)...)
			a2, b2 := slices.Clone(a), slices.Clone(b)
			reg.May(a[:len(first)])
			reg.Live(a[:len(first)])
			reg.Merge(a[:len(first)], b[:len(second)])
			if !slices.Equal(a, a2) || !slices.Equal(b, b2) {
				t.Errorf("%v and %v became %v and %v", a2, b2, a, b)
			}
		}
	}
}

// spoil writes over a list and the room behind it.
func spoil(l []api.Entry) {
	l = l[:cap(l)]
	for i := range l {
		l[i] = note(-1, -1, -1, -1)
	}
}

// isNewMemory checks that an answer shares memory with nothing handed in, and with no other answer.
func isNewMemory(t *testing.T, name string, call func(a, b []api.Entry) ([]api.Entry, api.Errno), first, second []api.Entry) {
	t.Helper()
	// Room behind what is handed in, for an answer that would be laid there.
	a := append(slices.Clone(first), at(71, 72, 73, 74, 75, 76, 77, 78)...)
	b := append(slices.Clone(second), at(81, 82, 83, 84, 85, 86, 87, 88)...)
	a2, b2 := slices.Clone(a), slices.Clone(b)
	one, _ := call(a[:len(first)], b[:len(second)])
	two, _ := call(a[:len(first)], b[:len(second)])
	want := slices.Clone(two)
	spoil(one)
	if !slices.Equal(a, a2) || !slices.Equal(b, b2) || !slices.Equal(two, want) {
		t.Errorf("%s of %v and %v: a change of one answer is seen elsewhere", name, first, second)
	}
	spoil(a)
	spoil(b)
	if !slices.Equal(two, want) {
		t.Errorf("%s keeps what it was handed, at %v and %v", name, first, second)
	}
}

func TestAnswersAreNewMemory(t *testing.T) { // 'What holds everywhere'
	r := rand.New(rand.NewSource(7))
	lists := [][]api.Entry{nil, at(0, 1, 2), at(4, 5, 6), at(from(0, 8)...), many(gone(0, 9, 0), gone(1, 9, 0)), many(note(0, 9, 9, 0), gone(1, 9, 0))}
	for range 20 {
		lists = append(lists, anyEntries(r, 8))
	}
	for _, a := range lists {
		for _, b := range lists {
			isNewMemory(t, "Merge", reg.Merge, a, b)
			isNewMemory(t, "Merge with itself", func(a, b []api.Entry) ([]api.Entry, api.Errno) { return reg.Merge(a, a) }, a, b)
			isNewMemory(t, "Live", func(a, b []api.Entry) ([]api.Entry, api.Errno) { return reg.Live(a) }, a, b)
		}
	}
}

// Example: as README.md tells it.
func Example() {
	here := []api.Entry{{Key: 1, Value: 5, Time: 2, Who: 1}, {Key: 3, Time: 1, Gone: true}}
	there := []api.Entry{{Key: 1, Value: 4, Time: 2, Who: 2}, {Key: 2, Value: 9, Time: 1, Who: 2}}
	fmt.Println(reg.Newer(there[0], here[0]))
	both, _ := reg.Merge(here, there)
	fmt.Println(both)
	fmt.Println(reg.Live(both))
	fmt.Println(reg.Merge(here, []api.Entry{{Gone: true, Value: 1}}))
	// Output:
	// true
	// [{1 4 2 2 false} {2 9 1 2 false} {3 0 1 0 true}]
	// [{1 4 2 2 false} {2 9 1 2 false}] 0
	// [] 4
}
