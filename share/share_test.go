package share_test

import (
	"fmt"
	"math"
	"math/rand"
	"slices"
	"testing"

	"splittally/api"
	"splittally/share"
)

// most is the greatest total and the greatest want (MaxCount), written out; room is how many may want (MaxWants).
const (
	most = 1048576
	room = 16
)

// noCounts are no totals and no wants: next to the ends, what wraps round to one, the ends of all numbers.
var noCounts = []int{-1, -2, -most, most + 1, most + 2, 2 * most, 1 << 32, 1<<32 + 1, -1 << 32, math.MaxInt - 1, math.MaxInt, math.MinInt, math.MinInt + 1}

func of(wants ...int) []int { return wants }

// same are so many wants, all the same.
func same(count, want int) []int { return slices.Repeat(of(want), count) }

func sum(l []int) int {
	n := 0
	for _, x := range l {
		n += x
	}
	return n
}

func isSplit(t *testing.T, total int, wants, want []int) {
	t.Helper()
	if got, code := share.Split(total, wants); !slices.Equal(got, want) || code != api.OK {
		t.Errorf("Split(%d, %v): %v %d, want %v 0", total, wants, got, code, want)
	}
}

func isRefused(t *testing.T, total int, wants []int, want api.Errno) {
	t.Helper()
	if got, code := share.Split(total, wants); len(got) != 0 || code != want {
		t.Errorf("Split(%d, %d wants, the first of them %v): %v %d, want [] %d", total, len(wants), wants[:min(len(wants), room+1)], got, code, want)
	}
}

// dealt deals a total out one by one, round by round, to those that want more: so the level rises by one a round.
func dealt(total int, wants []int) []int {
	shares := make([]int, len(wants))
	for gave := true; gave; {
		gave = false
		for i, want := range wants {
			if total > 0 && shares[i] < want {
				shares[i]++
				total--
				gave = true
			}
		}
	}
	return shares
}

// reckoned serves those that want least first: each an equal part of what is left, the whole of it if it wants no more.
func reckoned(total int, wants []int) []int {
	if sum(wants) <= total {
		return wants
	}
	ascending := slices.Sorted(slices.Values(wants))
	level, left := 0, total
	for i, want := range ascending {
		level = left / (len(ascending) - i)
		if want > level {
			break
		}
		left -= want
	}
	shares := make([]int, len(wants))
	rest := total
	for i, want := range wants {
		shares[i] = min(want, level)
		rest -= shares[i]
	}
	for i, want := range wants {
		if want > level && rest > 0 {
			shares[i]++
			rest--
		}
	}
	return shares
}

// allWants are all lists of so many wants, each of these.
func allWants(count int, each ...int) [][]int {
	all := [][]int{nil}
	for range count {
		var longer [][]int
		for _, l := range all {
			for _, n := range each {
				longer = append(longer, append(slices.Clone(l), n))
			}
		}
		all = longer
	}
	return all
}

// anyWants takes up to MaxWants wants below a number by chance, the same at each run.
func anyWants(r *rand.Rand, below int) []int {
	wants := make([]int, r.Intn(room+1))
	for i := range wants {
		wants[i] = r.Intn(below)
	}
	return wants
}

func TestWhereThereIsEnoughEachGetsWhatItWants(t *testing.T) { // P6.1
	for _, wants := range [][]int{
		of(0), of(1), of(2), of(5, 5), of(0, 0), of(0, 7), of(7, 0), of(3, 1, 2), of(1, 2, 3, 4, 5), of(9, 2, 9, 9),
		of(most), of(most-1, 1), of(0, most, 0), same(room, 0), same(room, 1), same(room, most/room), of(most/2, most/2),
	} {
		all := sum(wants)
		for _, total := range []int{all, all + 1, all + 2, 2 * all, most - 1, most} {
			if all <= total && total <= most {
				isSplit(t, total, wants, wants)
			}
		}
	}
}

func TestNobodyWants(t *testing.T) { // P6.1
	for _, total := range []int{0, 1, 2, room, most - 1, most} {
		isSplit(t, total, nil, nil)
		isSplit(t, total, []int{}, nil)
		for n := 1; n <= room; n++ {
			isSplit(t, total, same(n, 0), same(n, 0))
		}
	}
}

func TestThereIsNothing(t *testing.T) { // P6.1
	for n := 0; n <= room; n++ {
		for _, want := range []int{0, 1, 2, most - 1, most} {
			isSplit(t, 0, same(n, want), same(n, 0))
		}
	}
	isSplit(t, 0, of(0, 3, most, 0, 1), same(5, 0))
}

func TestOneAloneGetsAllThatThereIs(t *testing.T) { // P6.1
	numbers := []int{0, 1, 2, 3, 15, 16, 17, 1000, most/2 - 1, most / 2, most/2 + 1, most - 2, most - 1, most}
	for _, total := range numbers {
		for _, want := range numbers {
			isSplit(t, total, of(want), of(min(total, want)))
		}
	}
}

func TestSharesWrittenOut(t *testing.T) { // P6.1
	for _, c := range []struct {
		total       int
		wants, want []int
	}{
		{20, of(9, 2, 9, 9), of(6, 2, 6, 6)},
		{10, of(9, 2, 9, 9), of(3, 2, 3, 2)},
		{2, of(5, 5, 5), of(1, 1, 0)},
		// All that is wanted is just the total, one less, one more.
		{9, of(2, 3, 4), of(2, 3, 4)},
		{8, of(2, 3, 4), of(2, 3, 3)},
		{10, of(2, 3, 4), of(2, 3, 4)},
		{8, of(4, 3, 2), of(3, 3, 2)},
		{8, of(3, 3, 3), of(3, 3, 2)},
		// A level of 0: the total goes to the first that want anything.
		{1, of(9, 9, 9), of(1, 0, 0)},
		{1, of(0, 0, 9, 9), of(0, 0, 1, 0)},
		{2, of(0, 9, 0, 1, 9), of(0, 1, 0, 1, 0)},
		{3, of(1, 0, 1, 1, 1), of(1, 0, 1, 1, 0)},
		// A level that some want just: of what is left they get none, wherever they stand.
		{12, of(3, 9, 9, 3), of(3, 3, 3, 3)},
		{13, of(3, 9, 9, 3), of(3, 4, 3, 3)},
		{14, of(3, 9, 9, 9), of(3, 4, 4, 3)},
		{13, of(9, 3, 3, 9), of(4, 3, 3, 3)},
		{13, of(3, 3, 9, 9), of(3, 3, 4, 3)},
		{4, of(1, 1, 2, 2), of(1, 1, 1, 1)},
		// One above the level gets what is left as well as one far above it.
		{10, of(4, 9, 9), of(4, 3, 3)},
		{10, of(9, 9, 4), of(4, 3, 3)},
		{11, of(4, 9, 9), of(4, 4, 3)},
		{11, of(most, 4, 4), of(4, 4, 3)},
		// Those that want more than the level stand first, last and between others.
		{8, of(9, 9, 1, 2), of(3, 2, 1, 2)},
		{8, of(1, 2, 9, 9), of(1, 2, 3, 2)},
		{8, of(1, 9, 9, 2), of(1, 3, 2, 2)},
		{8, of(9, 1, 2, 9), of(3, 1, 2, 2)},
		// Those that want less leave more to others.
		{30, of(1, 2, 3, 100, 100), of(1, 2, 3, 12, 12)},
		{31, of(100, 3, 100, 2, 1), of(13, 3, 12, 2, 1)},
		// None the same, in no order.
		{15, of(7, 1, 5, 3, 9), of(4, 1, 4, 3, 3)},
		{24, of(7, 1, 5, 3, 9), of(7, 1, 5, 3, 8)},
		// The greatest numbers.
		{most, of(most, most), of(most/2, most/2)},
		{most, of(most, most, most), of(349526, 349525, 349525)},
		{most - 1, of(most, most, most), of(349525, 349525, 349525)},
		{most - 2, of(most, most, most), of(349525, 349525, 349524)},
		{most, of(most, 1), of(most-1, 1)},
		{most, of(1, most), of(1, most-1)},
		{most - 1, of(most, 0), of(most-1, 0)},
		{most, of(most, most-1, 0), of(most/2, most/2, 0)},
		{1, of(most, most), of(1, 0)},
		{most, same(room, most), same(room, 65536)},
		{most - 1, same(room, most), append(same(room-1, 65536), 65535)},
		{most - room + 1, same(room, most), append(of(65536), same(room-1, 65535)...)},
		{most, append(same(room-1, 0), most), append(same(room-1, 0), most)},
		{most, append(same(room-1, 1), most), append(same(room-1, 1), most-room+1)},
	} {
		isSplit(t, c.total, c.wants, c.want)
	}
}

func TestOfThoseThatWantTheSameTheFirstGetWhatIsLeft(t *testing.T) { // P6.1
	for n := 1; n <= room; n++ {
		for _, level := range []int{0, 1, 2, 7, 65535} {
			for left := range n {
				// Nothing is left, one, as many as may be: one for all of them would be a higher level.
				want := append(same(left, level+1), same(n-left, level)...)
				for _, each := range []int{level + 1, level + 2, most} {
					isSplit(t, n*level+left, same(n, each), want)
				}
			}
		}
	}
}

func TestWhatIsLeftGoesToThoseAboveTheLevelWhereverTheyStand(t *testing.T) { // P6.1
	const count, level = 6, 5
	others := of(level, level-1, 0, level, 1, level-2)
	for choice := 1; choice < 1<<count; choice++ {
		wants, total, above := make([]int, count), 0, of()
		for i := range count {
			wants[i] = others[i]
			if choice>>i&1 == 1 {
				// Just above the level, and far above it, in turn.
				wants[i] = level + 1 + len(above)%2*(most-level-1)
				above = append(above, i)
			}
			total += min(wants[i], level)
		}
		for left := range above {
			want := make([]int, count)
			for i := range want {
				want[i] = min(wants[i], level)
			}
			for _, i := range above[:left] {
				want[i]++
			}
			isSplit(t, total+left, wants, want)
		}
	}
}

func TestJustTheTotalOneLessAndOneMore(t *testing.T) { // P6.1
	r := rand.New(rand.NewSource(6))
	for n := 1; n <= room; n++ {
		for range 50 {
			wants := make([]int, n)
			for i := range wants {
				wants[i] = r.Intn(9)
			}
			wants[r.Intn(n)] = 9
			all := sum(wants)
			isSplit(t, all, wants, wants)
			isSplit(t, all+1, wants, wants)
			// One is missing: the last of those that want most goes without.
			less := slices.Clone(wants)
			for i := n - 1; ; i-- {
				if wants[i] == 9 {
					less[i]--
					break
				}
			}
			isSplit(t, all-1, wants, less)
		}
	}
}

func TestAllSmallSplits(t *testing.T) { // P6.1
	for n := 0; n <= 5; n++ {
		for _, wants := range allWants(n, 0, 1, 2, 3, 4) {
			for total := 0; total <= 4*n+1; total++ {
				want := dealt(total, wants)
				isSplit(t, total, wants, want)
				if other := reckoned(total, wants); !slices.Equal(other, want) {
					t.Fatalf("%d among %v: %v is dealt, but %v reckoned", total, wants, want, other)
				}
			}
		}
	}
}

func TestManySplits(t *testing.T) { // P6.1
	r := rand.New(rand.NewSource(7))
	scarce := 0
	for range 100000 {
		wants := anyWants(r, of(2, 5, 40, 1000, most+1)[r.Intn(5)])
		all := min(sum(wants), most-1)
		total := of(r.Intn(all+1), r.Intn(all+1), all, all+1, max(all-1, 0), r.Intn(most+1))[r.Intn(6)]
		if total < sum(wants) {
			scarce++
		}
		isSplit(t, total, wants, reckoned(total, wants))
	}
	if scarce < 20000 || scarce > 90000 {
		t.Errorf("in %d of the splits there was not enough: they are badly chosen", scarce)
	}
}

func TestEachTotalOfOneList(t *testing.T) { // P6.1
	wants := of(300, 0, 17, 1, 300, 299, 60, 60, 2, 150, 0, 301, 16, 61, 5, 59)
	for total := 0; total <= sum(wants)+2; total++ {
		isSplit(t, total, wants, dealt(total, wants))
	}
}

func TestSplitsByTheCountOfWants(t *testing.T) { // P6.1
	for n := 0; n <= room; n++ {
		isSplit(t, n, same(n, 1), same(n, 1))
		isSplit(t, most, same(n, 3), same(n, 3))
	}
	for _, n := range []int{17, 18, 31, 32, 33, 255, 256, 257, 65536, 65537, 100000} {
		for _, total := range []int{0, 1, n, most} {
			isRefused(t, total, same(n, 0), api.ErrSize)
			isRefused(t, total, same(n, 1), api.ErrSize)
			isRefused(t, total, same(n, most), api.ErrSize)
		}
	}
}

func TestSplitRefusesWhatIsNoTotal(t *testing.T) { // P6.1
	for _, total := range noCounts {
		isRefused(t, total, nil, api.ErrRange)
		isRefused(t, total, []int{}, api.ErrRange)
		for n := 1; n <= room; n++ {
			for _, want := range []int{0, 1, most} {
				isRefused(t, total, same(n, want), api.ErrRange)
			}
		}
	}
}

func TestSplitRefusesWhatIsNoWantAtEachPlace(t *testing.T) { // P6.1
	for _, wrong := range noCounts {
		for n := 1; n <= room; n++ {
			for place := range n {
				for _, total := range []int{0, 1, 50, most} {
					for _, other := range []int{0, 1, most} {
						wants := same(n, other)
						wants[place] = wrong
						isRefused(t, total, wants, api.ErrRange)
					}
				}
			}
		}
	}
	// Together they would be a want that may be.
	isRefused(t, 5, of(-1, 1), api.ErrRange)
	isRefused(t, 5, of(most+1, -1), api.ErrRange)
	isRefused(t, 5, of(math.MaxInt, math.MinInt, 1), api.ErrRange)
	isRefused(t, 5, same(room, math.MaxInt), api.ErrRange)
	isRefused(t, 5, same(room, math.MinInt), api.ErrRange)
}

func TestTheCountIsToldAheadOfTheNumbers(t *testing.T) { // P6.1
	for _, wrong := range noCounts {
		for _, n := range []int{17, 18, 100, 65536} {
			isRefused(t, wrong, same(n, 1), api.ErrSize)
			isRefused(t, 5, same(n, wrong), api.ErrSize)
			isRefused(t, wrong, same(n, wrong), api.ErrSize)
			for _, place := range []int{0, 8, 15, 16, n - 1} {
				wants := same(n, 1)
				wants[place] = wrong
				isRefused(t, 5, wants, api.ErrSize)
				isRefused(t, wrong, wants, api.ErrSize)
			}
		}
		// A total and a want are wrong, and not too many want.
		isRefused(t, wrong, of(wrong), api.ErrRange)
		isRefused(t, wrong, append(same(room-1, 1), wrong), api.ErrRange)
	}
}

// isFair checks that all that can be given is given, that nobody gets more than it wants, nor less than another one by more than one, unless it wants no more.
func isFair(t *testing.T, total int, wants []int) {
	t.Helper()
	got, code := share.Split(total, wants)
	if code != api.OK || len(got) != len(wants) {
		t.Fatalf("Split(%d, %v): %v %d", total, wants, got, code)
	}
	if sum(got) != min(total, sum(wants)) {
		t.Errorf("Split(%d, %v): %v are %d together", total, wants, got, sum(got))
	}
	for i, n := range got {
		if n < 0 || n > wants[i] || n < wants[i] && n+1 < slices.Max(got) {
			t.Errorf("Split(%d, %v): %v: the place %d gets too much, or too little", total, wants, got, i)
		}
	}
}

func TestSharesAreFair(t *testing.T) { // what comes of P6.1
	r := rand.New(rand.NewSource(8))
	for range 50000 {
		isFair(t, r.Intn(most+1), anyWants(r, most+1))
		isFair(t, r.Intn(200), anyWants(r, 30))
	}
}

func TestNobodyGainsByWantingMore(t *testing.T) { // what comes of P6.1
	for _, wants := range allWants(4, 0, 1, 2, 3, 4) {
		for total := range 17 {
			before, _ := share.Split(total, wants)
			for i := range wants {
				more := slices.Clone(wants)
				for _, by := range []int{1, 2, 5, most - wants[i]} {
					more[i] = wants[i] + by
					behind, _ := share.Split(total, more)
					// Who gets all that it wants has no use for more.
					if before[i] < wants[i] && !slices.Equal(behind, before) {
						t.Errorf("%d among %v: %v, but %v if %d wants %d", total, wants, before, behind, i, more[i])
					}
				}
			}
		}
	}
}

func TestNothingIsKeptFromCallToCall(t *testing.T) { // 'What holds everywhere'
	for range 3 {
		isSplit(t, 10, of(9, 2, 9, 9), of(3, 2, 3, 2))
		isRefused(t, -1, of(9, 2, 9, 9), api.ErrRange)
		isSplit(t, most, of(most), of(most))
		isRefused(t, 10, same(room+1, 9), api.ErrSize)
		isSplit(t, 2, of(5, 5, 5), of(1, 1, 0))
	}
}

// roomy lays wants where there is room behind them, with numbers in it; all is the list with that room.
func roomy(wants []int) (list, all []int) {
	all = append(slices.Clone(wants), 71, 72, 73, 74, 75, 76, 77, 78)
	return all[:len(wants)], all
}

// someWants are lists that may be split, and some that may not.
func someWants() [][]int {
	r := rand.New(rand.NewSource(9))
	lists := [][]int{nil, {}, of(0), of(5), of(9, 2, 9, 9), of(4, 3, 2, 1), same(room, 7), same(room+1, 7), of(5, -1), of(most+1, 5), same(room, most)}
	for range 200 {
		lists = append(lists, anyWants(r, 20))
	}
	return lists
}

func TestListsAndTheRoomBehindThemAreLeft(t *testing.T) { // 'What holds everywhere'
	for _, wants := range someWants() {
		for _, total := range []int{-1, 0, 1, 10, 50, most, most + 1} {
			list, all := roomy(wants)
			before := slices.Clone(all)
			share.Split(total, list)
			if !slices.Equal(all, before) {
				t.Errorf("Split(%d, ..) made %v of %v", total, all, before)
			}
		}
	}
}

// spoil writes over a list and the room behind it.
func spoil(l []int) {
	l = l[:cap(l)]
	for i := range l {
		l[i] = -9
	}
}

func TestAnswersAreNewMemory(t *testing.T) { // 'What holds everywhere'
	for _, wants := range someWants() {
		// With most there is enough for most of them: what each gets is what it wants, but not that list.
		for _, total := range []int{-1, 0, 1, 10, 50, most} {
			list, all := roomy(wants)
			before := slices.Clone(all)
			one, _ := share.Split(total, list)
			two, _ := share.Split(total, list)
			want := slices.Clone(two)
			spoil(one)
			if !slices.Equal(all, before) || !slices.Equal(two, want) {
				t.Errorf("Split(%d, %v): a change of one answer is seen elsewhere", total, wants)
			}
			spoil(all)
			if !slices.Equal(two, want) {
				t.Errorf("Split(%d, %v) keeps what it was handed", total, wants)
			}
		}
	}
}

// Example: as README.md tells it.
func Example() {
	fmt.Println(share.Split(99, []int{9, 2, 9, 9}))
	fmt.Println(share.Split(20, []int{9, 2, 9, 9}))
	fmt.Println(share.Split(10, []int{9, 2, 9, 9}))
	fmt.Println(share.Split(-1, []int{9, 2, 9, 9}))
	// Output:
	// [9 2 9 9] 0
	// [6 2 6 6] 0
	// [3 2 3 2] 0
	// [] 2
}
