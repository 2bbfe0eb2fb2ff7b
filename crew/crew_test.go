package crew_test

import (
	"fmt"
	"math"
	"math/rand"
	"slices"
	"testing"

	"splittally/api"
	"splittally/crew"
)

// Limits, written out: MaxCount, MaxWants, MaxKeys and MaxEvents.
const (
	most      = 1048576
	mostWants = 16
	mostKeys  = 8
	mostLists = 200
)

// noCounts are not from 0 to MaxCount: next to the ends, what wraps round to one, the ends of all numbers.
var noCounts = []int{-1, -2, -most, most + 1, most + 2, 2 * most, 1 << 32, 1<<32 + 1, -1 << 32, math.MaxInt - 1, math.MaxInt, math.MinInt, math.MinInt + 1}

// tooMany are more than MaxEvents; some of them would be few in fewer bits.
var tooMany = []int{201, 202, 255, 256, 257, 400, 1000, 65536, 65537}

// split is a total, and what is wanted of it.
type split struct {
	total int
	wants []int
}

func of(total int, wants ...int) split { return split{total, wants} }

// apart are the totals and the lists of splits.
func apart(l []split) (totals []int, wants [][]int) {
	for _, s := range l {
		totals, wants = append(totals, s.total), append(wants, s.wants)
	}
	return totals, wants
}

// some is a split of so much, which differs from those of its neighbours.
func some(i int) split { return of(i*7%40, i%5, 9, i%3, i) }

// splits are so many of these.
func splits(count int) []split {
	var l []split
	for i := range count {
		l = append(l, some(i))
	}
	return l
}

// shared serves those that want least first: each an equal part of what is left, the whole of what it wants if it wants no more.
func shared(s split) []int {
	ascending := slices.Sorted(slices.Values(s.wants))
	level, left := most, s.total
	for i, want := range ascending {
		part := left / (len(ascending) - i)
		if want > part {
			level = part
			break
		}
		left -= want
	}
	shares := make([]int, len(s.wants))
	rest := s.total
	for i, want := range s.wants {
		shares[i] = min(want, level)
		rest -= shares[i]
	}
	for i, want := range s.wants {
		if want > level && rest > 0 {
			shares[i]++
			rest--
		}
	}
	return shares
}

func isCount(n int) bool { return n >= 0 && n <= most }

// refusal is what a split by itself is refused with.
func refusal(s split) api.Errno {
	if len(s.wants) > mostWants {
		return api.ErrSize
	}
	for _, n := range append([]int{s.total}, s.wants...) {
		if !isCount(n) {
			return api.ErrRange
		}
	}
	return api.OK
}

// reckoned is what splits should come to.
func reckoned(l []split) ([][]int, api.Errno) {
	if len(l) > mostLists {
		return nil, api.ErrSize
	}
	var all [][]int
	for _, s := range l {
		if code := refusal(s); code != api.OK {
			return nil, code
		}
		all = append(all, shared(s))
	}
	return all, api.OK
}

func areEqual[T comparable](a, b [][]T) bool { return slices.EqualFunc(a, b, slices.Equal) }

func isSplits(t *testing.T, l []split, want [][]int, code api.Errno) {
	t.Helper()
	totals, wants := apart(l)
	if got, e := crew.Splits(totals, wants); !areEqual(got, want) || e != code {
		t.Errorf("Splits of %d, the first of them %v: %v %d, want %v %d", len(l), l[:min(len(l), 5)], got, e, want, code)
	}
}

func isReckoned(t *testing.T, l []split) {
	t.Helper()
	want, code := reckoned(l)
	isSplits(t, l, want, code)
}

// isUneven checks that so many totals and so many other lists are refused.
func isUneven(t *testing.T, totals []int, wants [][]int) {
	t.Helper()
	if got, e := crew.Splits(totals, wants); len(got) != 0 || e != api.ErrSize {
		t.Errorf("%d totals and %d lists: %v %d, want [] 1", len(totals), len(wants), got, e)
	}
}

func TestSplitsWrittenOut(t *testing.T) { // P15.1
	isSplits(t, []split{of(10, 9, 2, 9, 9), of(2, 5, 5, 5)}, [][]int{{3, 2, 3, 2}, {1, 1, 0}}, api.OK)
	isSplits(t, []split{of(2, 5, 5, 5), of(10, 9, 2, 9, 9)}, [][]int{{1, 1, 0}, {3, 2, 3, 2}}, api.OK)
	isSplits(t, []split{of(7, 3, 1, 5), of(0, 4, 4), of(9, 3, 3, 3), of(1, 2, 2, 2), of(100, 1, 2)}, [][]int{{3, 1, 3}, {0, 0}, {3, 3, 3}, {1, 0, 0}, {1, 2}}, api.OK)
	isSplits(t, []split{of(most, most, most), of(most-1, most, most)}, [][]int{{most / 2, most / 2}, {most / 2, most/2 - 1}}, api.OK)
}

func TestNoTotalAndNoList(t *testing.T) { // P15.1
	for _, totals := range [][]int{nil, {}} {
		for _, wants := range [][][]int{nil, {}} {
			if got, e := crew.Splits(totals, wants); len(got) != 0 || e != api.OK {
				t.Errorf("none: %v %d", got, e)
			}
		}
	}
}

func TestOneTotal(t *testing.T) { // P15.1
	for total := range 12 {
		for a := range 6 {
			for b := range 6 {
				for c := range 6 {
					isReckoned(t, []split{of(total, a, b, c)})
				}
			}
		}
	}
}

func TestWantsByHowManyThereAre(t *testing.T) { // P15.1: none, one, as many as P6.1 allows, and as great
	isSplits(t, []split{of(5)}, [][]int{nil}, api.OK)
	isSplits(t, []split{of(0), of(most), {3, []int{}}}, [][]int{nil, nil, {}}, api.OK)
	isSplits(t, []split{of(0, 5), of(4, 5), of(5, 5), of(6, 5), of(most, most), of(most, most-1), of(most-1, most)}, [][]int{{0}, {4}, {5}, {5}, {most}, {most - 1}, {most - 1}}, api.OK)
	var all []split
	for n := 0; n <= mostWants; n++ {
		for _, total := range []int{0, 1, n, 2*n + 1, most - 1, most} {
			for _, want := range []int{0, 1, 2, most / 16, most/16 + 1, most - 1, most} {
				l := split{total, slices.Repeat([]int{want}, n)}
				isReckoned(t, []split{l})
				all = append(all, l)
			}
		}
	}
	for part := range slices.Chunk(all, mostLists) {
		isReckoned(t, part)
	}
}

func TestEachInItsPlace(t *testing.T) { // P15.1: in their order
	// Each of these comes to something else, so that two of them cannot change places.
	l := []split{of(1, 9), of(2, 9), of(3, 9), of(4, 9, 9), of(0)}
	for order := range orders(len(l)) {
		var other []split
		var want [][]int
		for _, i := range order {
			other = append(other, l[i])
			want = append(want, [][]int{{1}, {2}, {3}, {2, 2}, nil}[i])
		}
		isSplits(t, other, want, api.OK)
	}
}

// orders gives all orders of the numbers below n.
func orders(n int) func(yield func([]int) bool) {
	return func(yield func([]int) bool) {
		var goOn func(order []int) bool
		goOn = func(order []int) bool {
			if len(order) == n {
				return yield(slices.Clone(order))
			}
			for i := range n {
				if !slices.Contains(order, i) && !goOn(append(slices.Clone(order), i)) {
					return false
				}
			}
			return true
		}
		goOn(nil)
	}
}

func TestAnyNumberOfSplits(t *testing.T) { // P15.1: as many as MaxEvents, and one more
	for n := 0; n <= mostLists; n++ {
		isReckoned(t, splits(n))
		if _, code := reckoned(splits(n)); code != api.OK {
			t.Fatalf("%d: badly chosen", n)
		}
	}
	for _, n := range tooMany {
		isSplits(t, splits(n), nil, api.ErrSize)
	}
}

func TestManySplits(t *testing.T) { // P15.1
	r := rand.New(rand.NewSource(1))
	for range 2000 {
		var l []split
		below := []int{3, 10, 100, most + 1}[r.Intn(4)]
		for range r.Intn(20) {
			s := of(r.Intn(min(8*below, most+1)))
			for range r.Intn(mostWants + 1) {
				s.wants = append(s.wants, r.Intn(below))
			}
			l = append(l, s)
		}
		isReckoned(t, l)
	}
}

func TestNotAsManyTotalsAsLists(t *testing.T) { // P15.1: ErrSize
	counts := append([]int{0, 1, 2, 3, 100, 199, 200}, tooMany...)
	for _, n := range counts {
		for _, m := range counts {
			if n == m {
				continue
			}
			totals, _ := apart(splits(n))
			_, wants := apart(splits(m))
			isUneven(t, totals, wants)
			// What would be refused else does not matter.
			for _, place := range places(n) {
				wrong := slices.Clone(totals)
				wrong[place] = -1
				isUneven(t, wrong, wants)
			}
			for _, place := range places(m) {
				wrong := slices.Clone(wants)
				wrong[place] = []int{-1}
				isUneven(t, totals, wrong)
			}
		}
	}
	isUneven(t, []int{1}, nil)
	isUneven(t, nil, [][]int{nil})
	isUneven(t, []int{-1}, [][]int{})
}

// places are the first place, one in the middle and the last one of so many.
func places(n int) []int {
	if n == 0 {
		return nil
	}
	return slices.Compact([]int{0, n / 2, n - 1})
}

// refused are splits that P6.1 refuses, by what it refuses them with.
func refused() map[api.Errno][]split {
	long := slices.Repeat([]int{1}, mostWants+1)
	all := map[api.Errno][]split{api.ErrSize: {
		{5, long},
		{5, make([]int, 1000)},
		{5, make([]int, 65536)},
		// The wants are too many ahead of what they are, and of the total.
		{-1, long},
		{most + 1, long},
		{5, append([]int{-1}, long...)},
		{5, append(slices.Clone(long), most+1)},
	}}
	for _, n := range noCounts {
		all[api.ErrRange] = append(all[api.ErrRange], of(n), of(n, 3), of(n, 3, 4, 5), of(5, n), of(5, n, 4, 3), of(5, 4, n, 3), of(5, 4, 3, n), of(n, n), of(most, n), of(0, n),
			split{5, append(make([]int, mostWants-1), n)}, split{n, make([]int, mostWants)})
	}
	return all
}

func TestARefusedOneInEachPlace(t *testing.T) { // P15.1: as the first, in the middle, and as the last one
	for code, all := range refused() {
		for _, wrong := range all {
			for _, n := range []int{1, 2, 3, 4, 5, 17, 199, 200} {
				for _, place := range places(n) {
					l := splits(n)
					l[place] = wrong
					isSplits(t, l, nil, code)
				}
			}
			// There are too many of them: that is told ahead of all else.
			for _, place := range places(mostLists + 1) {
				l := splits(mostLists + 1)
				l[place] = wrong
				isSplits(t, l, nil, api.ErrSize)
			}
		}
	}
	for place := range mostLists {
		for code, all := range refused() {
			l := splits(mostLists)
			l[place] = all[0]
			isSplits(t, l, nil, code)
		}
	}
}

func TestTheFirstThatIsRefusedTells(t *testing.T) { // P15.1
	kinds := []split{of(5, 3, 4), of(5, make([]int, mostWants+1)...), of(-1, 3, 4), of(5, 3, most+1)}
	codes := []api.Errno{api.OK, api.ErrSize, api.ErrRange, api.ErrRange}
	// All that five of these may be.
	for choice := range 1 << 10 {
		var l []split
		first := api.OK
		for i := range 5 {
			kind := choice >> (2 * i) & 3
			l = append(l, kinds[kind])
			if first == api.OK {
				first = codes[kind]
			}
		}
		if first != api.OK {
			isSplits(t, l, nil, first)
		}
		isReckoned(t, l)
	}
	// Two among many.
	for _, i := range []int{0, 1, 50, 100, 198} {
		for _, j := range []int{i + 1, 150, 199} {
			if j > i {
				l := splits(mostLists)
				l[i], l[j] = kinds[1], kinds[2]
				isSplits(t, l, nil, api.ErrSize)
				l[i], l[j] = kinds[2], kinds[1]
				isSplits(t, l, nil, api.ErrRange)
			}
		}
	}
	// All of them.
	isSplits(t, slices.Repeat(kinds[1:2], mostLists), nil, api.ErrSize)
	isSplits(t, slices.Repeat(kinds[2:3], mostLists), nil, api.ErrRange)
}

func note(key, value, time, who int) api.Entry {
	return api.Entry{Key: key, Value: value, Time: time, Who: who}
}

func gone(key, time, who int) api.Entry {
	return api.Entry{Key: key, Time: time, Who: who, Gone: true}
}

func many(l ...api.Entry) []api.Entry { return l }

func lists(l ...[]api.Entry) [][]api.Entry { return l }

// at are entries that may be, of these keys.
func at(keys ...int) []api.Entry {
	var l []api.Entry
	for _, key := range keys {
		l = append(l, note(key, 3, 5, 1))
	}
	return l
}

// from are entries of so many keys, one behind the other.
func from(key, count int) []api.Entry {
	var l []api.Entry
	for i := range count {
		l = append(l, at(key+i)...)
	}
	return l
}

// rank is what is asked of an entry, in the order named by P4.2: the greater list is of what is newer.
func rank(e api.Entry) []int {
	here := 1
	if e.Gone {
		here = 0
	}
	return []int{e.Time, e.Who, here, e.Value}
}

// may tells by the words of P4.1 whether entries may be.
func may(l []api.Entry) bool {
	for i, e := range l {
		if !isCount(e.Key) || !isCount(e.Value) || !isCount(e.Time) || !isCount(e.Who) || e.Who > 7 || e.Gone && e.Value > 0 || i > 0 && l[i-1].Key >= e.Key {
			return false
		}
	}
	return len(l) <= mostKeys
}

// merged is what lists should come to: of each key that is there the entry of the greatest rank.
func merged(l [][]api.Entry) ([]api.Entry, api.Errno) {
	if len(l) > mostLists {
		return nil, api.ErrSize
	}
	best := map[int]api.Entry{}
	for _, one := range l {
		if !may(one) {
			return nil, api.ErrForm
		}
		for _, e := range one {
			if old, has := best[e.Key]; !has || slices.Compare(rank(e), rank(old)) > 0 {
				best[e.Key] = e
			}
		}
	}
	if len(best) > mostKeys {
		return nil, api.ErrFull
	}
	var out []api.Entry
	for _, e := range best {
		out = append(out, e)
	}
	slices.SortFunc(out, func(a, b api.Entry) int { return a.Key - b.Key })
	return out, api.OK
}

func isMergeAll(t *testing.T, l [][]api.Entry, want []api.Entry, code api.Errno) {
	t.Helper()
	if got, e := crew.MergeAll(l); !slices.Equal(got, want) || e != code {
		t.Errorf("MergeAll of %d, the first of them %v: %v %d, want %v %d", len(l), l[:min(len(l), 5)], got, e, want, code)
	}
}

func isMerged(t *testing.T, l [][]api.Entry) {
	t.Helper()
	want, code := merged(l)
	isMergeAll(t, l, want, code)
}

func TestMergesWrittenOut(t *testing.T) { // P15.2
	a, b := many(note(1, 5, 2, 1), gone(3, 1, 0)), many(note(1, 4, 2, 2), note(2, 9, 1, 2))
	isMergeAll(t, lists(a, b), many(note(1, 4, 2, 2), note(2, 9, 1, 2), gone(3, 1, 0)), api.OK)
	isMergeAll(t, lists(b, a), many(note(1, 4, 2, 2), note(2, 9, 1, 2), gone(3, 1, 0)), api.OK)
	c := many(gone(1, 3, 0), note(3, 7, 1, 0))
	isMergeAll(t, lists(a, b, c), many(gone(1, 3, 0), note(2, 9, 1, 2), note(3, 7, 1, 0)), api.OK)
	isMergeAll(t, lists(at(1), at(3), at(1), at(2), at(1)), at(1, 2, 3), api.OK)
	// The newest stands as the first, in the middle, and as the last one.
	isMergeAll(t, lists(many(note(0, 1, 5, 0)), many(note(0, 2, 4, 7)), many(note(0, 3, 3, 7))), many(note(0, 1, 5, 0)), api.OK)
	isMergeAll(t, lists(many(note(0, 1, 3, 0)), many(note(0, 2, 5, 7)), many(note(0, 3, 4, 7))), many(note(0, 2, 5, 7)), api.OK)
	isMergeAll(t, lists(many(note(0, 1, 3, 0)), many(note(0, 2, 4, 7)), many(note(0, 3, 5, 7))), many(note(0, 3, 5, 7)), api.OK)
}

func TestNoLists(t *testing.T) { // P15.2: of none: none
	isMergeAll(t, nil, nil, api.OK)
	isMergeAll(t, lists(), nil, api.OK)
	isMergeAll(t, [][]api.Entry{}, nil, api.OK)
}

func TestOneList(t *testing.T) { // P15.2
	isMergeAll(t, lists(nil), nil, api.OK)
	isMergeAll(t, lists(many()), nil, api.OK)
	isMergeAll(t, lists([]api.Entry{}), nil, api.OK)
	for n := 1; n <= mostKeys; n++ {
		isMergeAll(t, lists(from(0, n)), from(0, n), api.OK)
		isMergeAll(t, lists(from(most-n+1, n)), from(most-n+1, n), api.OK)
	}
	// What is Gone stays, as in each merge.
	isMergeAll(t, lists(many(gone(0, 0, 0), note(1, 0, 0, 0), gone(2, most, 7), note(most, most, most, 7))), many(gone(0, 0, 0), note(1, 0, 0, 0), gone(2, most, 7), note(most, most, most, 7)), api.OK)
}

// writers are so many lists of the same three keys, each written by several; the newest of them all stand in the list at a place.
func writers(count, place int) [][]api.Entry {
	var l [][]api.Entry
	for i := range count {
		l = append(l, many(note(4, i, 3, i%7), gone(5, i%3, i%8), note(9, i%5, i, i%8)))
	}
	if count > 0 {
		l[place] = many(note(4, 1, 3, 7), note(5, 1, 3, 0), gone(9, count, 0))
	}
	return l
}

func TestAnyNumberOfLists(t *testing.T) { // P15.2: an odd and an even number, as many as MaxEvents, and one more
	for n := 1; n <= mostLists; n++ {
		for _, place := range places(n) {
			isMergeAll(t, writers(n, place), writers(n, place)[place], api.OK)
		}
		isMerged(t, writers(n, 0)[1:])
	}
	for place := range mostLists {
		isMergeAll(t, writers(mostLists, place), writers(mostLists, place)[place], api.OK)
		isMergeAll(t, writers(mostLists-1, min(place, mostLists-2)), writers(mostLists-1, min(place, mostLists-2))[min(place, mostLists-2)], api.OK)
	}
	for _, n := range tooMany {
		isMergeAll(t, writers(n, 0), nil, api.ErrSize)
		isMergeAll(t, make([][]api.Entry, n), nil, api.ErrSize)
	}
}

func TestEmptyLists(t *testing.T) { // P15.2: alone and among others
	for n := 0; n <= mostLists; n++ {
		isMergeAll(t, make([][]api.Entry, n), nil, api.OK)
		isMergeAll(t, slices.Repeat(lists(many()), n), nil, api.OK)
	}
	// All that six lists may be of which some are empty.
	full := lists(at(0, 1), at(1, 2), many(gone(1, 6, 0)), at(7), many(note(7, 0, 0, 0)), at(3, 4, 5))
	for choice := range 1 << 6 {
		var l [][]api.Entry
		for i := range full {
			if choice>>i&1 == 1 {
				l = append(l, full[i])
			} else {
				l = append(l, lists(nil, []api.Entry{})[i%2])
			}
		}
		isMerged(t, l)
	}
	for _, n := range []int{2, 3, 10, 11, 199, 200} {
		for _, place := range places(n) {
			l := make([][]api.Entry, n)
			l[place] = from(3, mostKeys)
			isMergeAll(t, l, from(3, mostKeys), api.OK)
		}
	}
}

func TestAsManyKeysAsThereMayBe(t *testing.T) { // P15.2: just MaxKeys keys, and one more, one in each list
	for n := 1; n <= 20; n++ {
		l := make([][]api.Entry, n)
		for i := range l {
			l[i] = at(i)
		}
		if n <= mostKeys {
			isMergeAll(t, l, from(0, n), api.OK)
		} else {
			isMergeAll(t, l, nil, api.ErrFull)
		}
	}
	// Each of two has as many as may be, or one of them one more.
	isMergeAll(t, lists(from(0, 8), from(0, 8)), from(0, 8), api.OK)
	isMergeAll(t, lists(from(0, 8), from(1, 8)), nil, api.ErrFull)
	isMergeAll(t, lists(from(0, 4), from(4, 4)), from(0, 8), api.OK)
	isMergeAll(t, lists(from(0, 5), from(5, 4)), nil, api.ErrFull)
	// Each two of three have fewer.
	isMergeAll(t, lists(from(0, 3), from(3, 3), from(6, 2)), from(0, 8), api.OK)
	isMergeAll(t, lists(from(0, 3), from(3, 3), from(6, 3)), nil, api.ErrFull)
	isMergeAll(t, lists(from(0, 6), from(3, 6), from(0, 3)), nil, api.ErrFull)
	isMergeAll(t, lists(from(0, 6), from(2, 6), from(0, 8)), from(0, 8), api.OK)
	// What is Gone takes as much room as all else.
	isMergeAll(t, lists(from(0, 4), many(gone(8, 1, 1)), from(4, 4)), nil, api.ErrFull)
	isMergeAll(t, lists(from(0, 4), many(gone(7, 9, 1)), from(4, 4)), append(from(0, 7), gone(7, 9, 1)), api.OK)
}

func TestKeysInWhicheverList(t *testing.T) { // P15.2: nine and eight keys, in whichever of three lists each of them is
	for choice := range 19683 {
		l := make([][]api.Entry, 3)
		for key := range 9 {
			i := choice % 3
			choice /= 3
			l[i] = append(l[i], at(key)...)
		}
		longest := max(len(l[0]), len(l[1]), len(l[2]))
		if longest <= mostKeys {
			isMergeAll(t, l, nil, api.ErrFull)
		} else {
			isMergeAll(t, l, nil, api.ErrForm)
		}
		for i := range l {
			l[i] = slices.DeleteFunc(l[i], func(e api.Entry) bool { return e.Key == 4 })
		}
		isMergeAll(t, l, slices.Concat(from(0, 4), from(5, 4)), api.OK)
	}
}

func TestOneKeyTooManyAmongManyLists(t *testing.T) { // P15.2
	for _, n := range []int{2, 3, 4, 5, 7, 8, 9, 16, 17, 33, 63, 64, 65, 127, 128, 129, 199, 200} {
		for _, place := range places(n) {
			l := slices.Repeat(lists(from(0, 8)), n)
			isMergeAll(t, l, from(0, 8), api.OK)
			l[place] = at(8)
			isMergeAll(t, l, nil, api.ErrFull)
			l[place] = from(1, 8)
			isMergeAll(t, l, nil, api.ErrFull)
			// Where those beside it have little, the room ends only as they come together.
			l = make([][]api.Entry, n)
			for i := range l {
				l[i] = at(i % 8)
			}
			isMerged(t, l)
			l[place] = at(most)
			isMerged(t, l)
		}
	}
}

func TestTheSameListSeveralTimes(t *testing.T) { // P15.2: however often, the same comes out
	one := many(note(1, 5, 2, 1), gone(3, 1, 0), note(6, 0, 0, 7))
	for n := 1; n <= mostLists; n++ {
		isMergeAll(t, slices.Repeat(lists(one), n), one, api.OK)
		isMergeAll(t, slices.Repeat(lists(from(5, 8)), n), from(5, 8), api.OK)
	}
	l := lists(many(note(0, 1, 2, 0)), many(note(0, 2, 2, 0), note(4, 0, 0, 0)), many(gone(0, 2, 1)))
	for n := 1; n <= mostLists/3; n++ {
		isMergeAll(t, slices.Repeat(l, n), many(gone(0, 2, 1), note(4, 0, 0, 0)), api.OK)
	}
}

func TestWhateverTheOrder(t *testing.T) { // P15.2: in whatever order, the same comes out
	few := lists(many(note(0, 1, 2, 0), note(5, 1, 1, 1)), many(note(0, 2, 2, 0), gone(5, 1, 1)), many(gone(0, 2, 1), note(6, 1, 1, 1)), many(note(5, 2, 1, 1)), many(note(0, 0, 2, 1)), nil)
	wide := lists(from(0, 2), from(2, 2), from(4, 2), from(6, 2), at(8))
	wrong := lists(from(0, 8), from(4, 8), at(2, 1), at(0), nil)
	for _, l := range [][][]api.Entry{few, wide, wide[:4], wrong} {
		want, code := merged(l)
		for order := range orders(len(l)) {
			var other [][]api.Entry
			for _, i := range order {
				other = append(other, l[i])
			}
			isMergeAll(t, other, want, code)
		}
	}
	isMergeAll(t, few, many(note(0, 0, 2, 1), note(5, 2, 1, 1), note(6, 1, 1, 1)), api.OK)
	isMergeAll(t, wide, nil, api.ErrFull)
	isMergeAll(t, wrong, nil, api.ErrForm)
}

// anyEntries takes entries of keys below a number by chance, the same at each run.
func anyEntries(r *rand.Rand, below int) []api.Entry {
	var l []api.Entry
	for key := range below {
		if r.Intn(3) > 0 || len(l) == mostKeys {
			continue
		}
		e := note(key, r.Intn(3), r.Intn(3), r.Intn(3))
		if r.Intn(3) == 0 {
			e = gone(key, r.Intn(3), r.Intn(3))
		}
		l = append(l, e)
	}
	return l
}

func TestManyMerges(t *testing.T) { // P15.2
	r := rand.New(rand.NewSource(2))
	var codes [9]int
	for range 5000 {
		below := 1 + r.Intn(12)
		var l [][]api.Entry
		for range r.Intn(12) {
			l = append(l, anyEntries(r, below))
		}
		if r.Intn(10) == 0 {
			l = append(l, at(3, 2))
		}
		r.Shuffle(len(l), func(i, j int) { l[i], l[j] = l[j], l[i] })
		_, code := merged(l)
		codes[code]++
		isMerged(t, l)
	}
	if codes[api.OK] < 500 || codes[api.ErrForm] < 200 || codes[api.ErrFull] < 500 {
		t.Errorf("codes %v: the lists are badly chosen", codes)
	}
}

func TestTheSameKeysWrittenBySeveral(t *testing.T) { // P15.2
	// All that three entries of one key may be, of these.
	var some []api.Entry
	for time := range 2 {
		for who := range 2 {
			some = append(some, note(6, 0, time, who), note(6, 1, time, who), gone(6, time, who))
		}
	}
	for _, a := range some {
		for _, b := range some {
			for _, c := range some {
				isMerged(t, lists(many(a), many(b), many(c)))
				isMerged(t, lists(many(note(5, 1, 1, 1), a), many(b), many(c, note(7, 1, 1, 1)), many(a)))
			}
		}
	}
}

// noEntries are lists that may not be, each for another of P4.1's reasons.
func noEntries() [][]api.Entry {
	l := lists(
		from(0, 9), from(0, 10), from(0, 1000), from(0, 65536),
		at(1, 0), at(3, 3), at(0, 2, 1), at(1, 2, 1), at(0, 1, 2, 3, 4, 5, 6, 6), at(1, 2, 3, 4, 5, 6, 7, 0),
		many(note(4, 1, 1, 1), gone(4, 2, 2)),
		many(api.Entry{Value: 1, Gone: true}), many(api.Entry{Value: most, Gone: true}), many(api.Entry{Value: -1, Gone: true}),
		append(from(0, 7), api.Entry{Key: 7, Value: 1, Gone: true}),
	)
	for _, n := range noCounts {
		l = append(l, many(note(n, 3, 3, 3)), many(note(3, n, 3, 3)), many(note(3, 3, n, 3)), many(note(3, 3, 3, n)))
		l = append(l, many(gone(n, 3, 3)), many(gone(3, n, 3)), many(gone(3, 3, n)))
		l = append(l, append(from(0, 7), note(7, n, 3, 3)), append(from(0, 7), note(7, 3, n, 3)), append(from(0, 7), note(7, 3, 3, n)))
	}
	for _, n := range []int{8, 9, 255, 256, most} {
		l = append(l, many(note(3, 3, 3, n)), many(gone(3, 3, n)), append(from(0, 7), note(7, 3, 3, n)))
	}
	return l
}

func TestAListThatMayNotBe(t *testing.T) { // P15.2: ErrForm
	for _, wrong := range noEntries() {
		isMergeAll(t, lists(wrong), nil, api.ErrForm)
		for _, n := range []int{2, 3, 4, 5, 17, 199, 200} {
			for _, place := range places(n) {
				l := writers(n, 0)
				l[place] = wrong
				isMergeAll(t, l, nil, api.ErrForm)
				l = make([][]api.Entry, n)
				l[place] = wrong
				isMergeAll(t, l, nil, api.ErrForm)
			}
		}
		isMergeAll(t, slices.Repeat(lists(wrong), 3), nil, api.ErrForm)
	}
	for place := range mostLists {
		l := writers(mostLists, 0)
		l[place] = at(1, 0)
		isMergeAll(t, l, nil, api.ErrForm)
	}
}

func TestTheErrorThatIsNamedFirst(t *testing.T) { // P15.2: ErrSize, ErrForm, ErrFull
	for _, wrong := range noEntries() {
		// More than MaxKeys keys, of two neighbours, or of such as are far from each other, ahead of it and behind it.
		for _, l := range [][][]api.Entry{
			{wrong, from(100, 8), from(108, 8)}, {from(100, 8), wrong, from(108, 8)}, {from(100, 8), from(108, 8), wrong},
			{from(100, 8), from(108, 8), nil, wrong}, {wrong, nil, from(100, 8), from(108, 8)}, {from(100, 8), nil, nil, wrong, from(108, 8)},
		} {
			isMergeAll(t, l, nil, api.ErrForm)
		}
		for _, place := range places(mostLists) {
			l := make([][]api.Entry, mostLists)
			for i := range l {
				l[i] = at(i)
			}
			isMergeAll(t, l, nil, api.ErrFull)
			l[place] = wrong
			isMergeAll(t, l, nil, api.ErrForm)
			isMergeAll(t, append(l, nil), nil, api.ErrSize)
			isMergeAll(t, append(lists(nil), l...), nil, api.ErrSize)
		}
		isMergeAll(t, append(make([][]api.Entry, mostLists), wrong), nil, api.ErrSize)
		isMergeAll(t, append(lists(wrong), make([][]api.Entry, mostLists)...), nil, api.ErrSize)
	}
	isMergeAll(t, append(slices.Repeat(lists(from(0, 8)), mostLists), at(8)), nil, api.ErrSize)
}

func TestNothingIsKeptFromCallToCall(t *testing.T) { // 'What holds everywhere'
	for range 3 {
		isReckoned(t, splits(5))
		isReckoned(t, []split{of(-1, 1)})
		isReckoned(t, splits(2))
		isReckoned(t, nil)
		isMerged(t, writers(5, 1))
		isMerged(t, lists(from(0, 8), from(1, 8)))
		isMerged(t, lists(at(3)))
		isMerged(t, lists(at(3, 2)))
		isMerged(t, nil)
	}
}

// roomy lays a list where there is room behind it that is not empty; all is the list with that room.
func roomy[T any](l []T, with T) (list, all []T) {
	all = append(slices.Clone(l), slices.Repeat([]T{with}, 9)...)
	return all[:len(l)], all
}

// laid are lists that have room behind them, as the list of them has.
type laid[T any] struct {
	list, all [][]T
	each      [][]T
}

func lay[T any](l [][]T, with T) laid[T] {
	var x laid[T]
	x.list, x.all = roomy(l, []T{with, with})
	for i := range x.list {
		list, all := roomy(x.list[i], with)
		x.list[i], x.each = list, append(x.each, all)
	}
	return x
}

// spoil writes over all of them, from within outwards.
func (x laid[T]) spoil(with T) {
	for _, l := range x.each {
		spoil(l, with)
	}
	spoil(x.all, []T{with})
}

// spoil writes over a list and the room behind it.
func spoil[T any](l []T, with T) {
	l = l[:cap(l)]
	for i := range l {
		l[i] = with
	}
}

// sampleSplits are splits that are taken, and such as are refused.
func sampleSplits() [][]split {
	same := of(7, 3, 3, 3)
	return [][]split{nil, splits(1), splits(2), splits(30), splits(200), splits(201), {of(5), of(5)}, {same, same, same}, {of(3, 2), of(-1, 2), of(4, 4)}, {of(3, 2), of(4, make([]int, 17)...)}}
}

// sampleLists are lists that are merged, and such as are refused.
func sampleLists() [][][]api.Entry {
	same := at(1, 2, 3)
	return [][][]api.Entry{
		nil, lists(nil), lists(many()), lists(same), lists(from(0, 8)), lists(same, nil), lists(nil, same), lists(many(), same), lists(same, same), lists(nil, nil, same), lists(nil, many(), nil),
		writers(2, 0), writers(2, 1), writers(3, 2), writers(4, 0), writers(5, 4), writers(200, 7), writers(201, 7),
		lists(from(0, 3), from(3, 3), from(6, 2)), lists(from(0, 3), from(3, 3), from(6, 3)), lists(at(1), at(2, 1)),
	}
}

func TestListsAndTheRoomBehindThemAreLeft(t *testing.T) { // 'What holds everywhere'
	for _, l := range sampleSplits() {
		totals, wants := apart(l)
		totals, room := roomy(totals, 77)
		in := lay(wants, 78)
		before := fmt.Sprint(totals, room, in)
		crew.Splits(totals, in.list)
		crew.Splits(totals, append(slices.Clone(in.list), nil))
		if after := fmt.Sprint(totals, room, in); after != before {
			t.Errorf("%v became %v", before, after)
		}
	}
	for _, l := range sampleLists() {
		in := lay(l, note(79, 79, 79, 79))
		before := fmt.Sprint(in)
		crew.MergeAll(in.list)
		if after := fmt.Sprint(in); after != before {
			t.Errorf("%v became %v", before, after)
		}
	}
}

func TestWhatIsHandedInIsNotKept(t *testing.T) { // 'What holds everywhere'
	for _, l := range sampleSplits() {
		totals, wants := apart(l)
		totals, room := roomy(totals, 77)
		in := lay(wants, 78)
		got, _ := crew.Splits(totals, in.list)
		want := fmt.Sprint(got)
		spoil(room, -9)
		in.spoil(-9)
		if fmt.Sprint(got) != want {
			t.Errorf("Splits keeps what it was handed: %v, want %v", got, want)
		}
	}
	for _, l := range sampleLists() {
		in := lay(l, note(79, 79, 79, 79))
		got, _ := crew.MergeAll(in.list)
		want := fmt.Sprint(got)
		in.spoil(note(-9, -9, -9, -9))
		if fmt.Sprint(got) != want {
			t.Errorf("MergeAll keeps what it was handed: %v, want %v", got, want)
		}
	}
}

func TestAnswersAreNewMemory(t *testing.T) { // 'What holds everywhere'
	for _, l := range sampleSplits() {
		totals, wants := apart(l)
		totals, room := roomy(totals, 77)
		in := lay(wants, 78)
		one, _ := crew.Splits(totals, in.list)
		other, _ := crew.Splits(totals, in.list)
		before := fmt.Sprint(totals, room, in, other)
		for _, shares := range one {
			spoil(shares, -9)
		}
		spoil(one, []int{-9})
		if after := fmt.Sprint(totals, room, in, other); after != before {
			t.Errorf("a change of one answer of Splits: %v became %v", before, after)
		}
	}
	for _, l := range sampleLists() {
		in := lay(l, note(79, 79, 79, 79))
		one, _ := crew.MergeAll(in.list)
		other, _ := crew.MergeAll(in.list)
		before := fmt.Sprint(in, other)
		spoil(one, note(-9, -9, -9, -9))
		if after := fmt.Sprint(in, other); after != before {
			t.Errorf("a change of one answer of MergeAll: %v became %v", before, after)
		}
	}
}

func TestNoTwoListsOfOneAnswerShareAny(t *testing.T) { // 'What holds everywhere'
	for _, l := range sampleSplits() {
		totals, wants := apart(l)
		got, _ := crew.Splits(totals, wants)
		for i, shares := range got {
			spoil(shares, -9-i)
		}
		for i, shares := range got {
			for _, n := range shares[:cap(shares)] {
				if n != -9-i {
					t.Fatalf("Splits of %v: two lists share memory", l)
				}
			}
		}
	}
}

// Example: as README.md tells it.
func Example() {
	fmt.Println(crew.Splits([]int{10, 2}, [][]int{{9, 2, 9, 9}, {5, 5, 5}}))
	fmt.Println(crew.Splits([]int{10, -1}, [][]int{{9, 2, 9, 9}, {5, 5, 5}}))
	a := []api.Entry{{Key: 1, Value: 5, Time: 2, Who: 1}}
	b := []api.Entry{{Key: 1, Value: 4, Time: 2, Who: 2}, {Key: 2, Value: 9, Time: 1, Who: 2}}
	c := []api.Entry{{Key: 2, Time: 3, Gone: true}}
	fmt.Println(crew.MergeAll([][]api.Entry{a, b, c}))
	fmt.Println(crew.MergeAll([][]api.Entry{a, {{Key: -1}}, c}))
	// Output:
	// [[3 2 3 2] [1 1 0]] 0
	// [] 2
	// [{1 4 2 2 false} {2 0 3 0 true}] 0
	// [] 4
}
