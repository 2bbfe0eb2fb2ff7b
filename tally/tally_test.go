package tally_test

import (
	"fmt"
	"math"
	"math/rand"
	"slices"
	"testing"

	"splittally/api"
	"splittally/tally"
)

// most is the greatest number of a tally (MaxCount), written out.
const most = 1048576

// noCounts are no numbers of a tally: next to the ends, what wraps round to one, the ends of all numbers.
var noCounts = []int{-1, -2, -most, most + 1, most + 2, 2 * most, 1 << 32, 1<<32 + 1, -1 << 32, math.MaxInt, math.MinInt, math.MinInt + 1}

// noKinds are no kinds of a deed.
var noKinds = []int{0, -1, -2, -3, 4, 5, 7, 256, 257, 258, 259, 1<<32 + 1, 1<<32 + 2, 1<<32 + 3, math.MaxInt, math.MinInt, math.MinInt + 1}

// noBranches are no branches of a tally of so many.
func noBranches(branches int) []int {
	return []int{-1, -2, -8, -branches, branches, branches + 1, branches + 8, 256, 1 << 32, 1<<32 + 1, math.MaxInt, math.MinInt, math.MinInt + 1}
}

func rows(l ...[]int) [][]int { return l }

func of(used []int, moves ...[]int) api.Tally { return api.Tally{Moves: moves, Used: used} }

func mint(who, count int) api.Deed {
	return api.Deed{Kind: api.Mint, Who: who, Count: count}
}

func move(who, to, count int) api.Deed {
	return api.Deed{Kind: api.Move, Who: who, To: to, Count: count}
}

func use(who, count int) api.Deed {
	return api.Deed{Kind: api.Use, Who: who, Count: count}
}

// filled is a tally of so many branches with this number everywhere.
func filled(branches, n int) api.Tally {
	t := api.Tally{Used: slices.Repeat([]int{n}, branches)}
	for range branches {
		t.Moves = append(t.Moves, slices.Repeat([]int{n}, branches))
	}
	return t
}

func clone(t api.Tally) api.Tally {
	c := api.Tally{Used: slices.Clone(t.Used)}
	for _, row := range t.Moves {
		c.Moves = append(c.Moves, slices.Clone(row))
	}
	return c
}

func same(a, b api.Tally) bool {
	return slices.Equal(a.Used, b.Used) && slices.EqualFunc(a.Moves, b.Moves, slices.Equal)
}

// numbers are all numbers of a tally, each as a place to write to.
func numbers(t api.Tally) []*int {
	var l []*int
	for _, row := range append(slices.Clone(t.Moves), t.Used) {
		for i := range row {
			l = append(l, &row[i])
		}
	}
	return l
}

// text tells of a great tally no more than its size.
func text(y api.Tally) string {
	if len(y.Moves) > 16 || len(y.Used) > 16 {
		return fmt.Sprintf("(a tally of %d rows, and %d Used)", len(y.Moves), len(y.Used))
	}
	return fmt.Sprint(y)
}

func isMay(t *testing.T, y api.Tally, want bool) {
	t.Helper()
	if got := tally.May(y); got != want {
		t.Errorf("May(%s): %v, want %v", text(y), got, want)
	}
}

func isLeft(t *testing.T, y api.Tally, who, want int, code api.Errno) {
	t.Helper()
	if got, e := tally.Left(y, who); got != want || e != code {
		t.Errorf("Left(%s, %d): %d %d, want %d %d", text(y), who, got, e, want, code)
	}
}

func isDo(t *testing.T, y api.Tally, d api.Deed, want api.Tally, code api.Errno) {
	t.Helper()
	if got, e := tally.Do(y, d); !same(got, want) || e != code {
		t.Errorf("Do(%s, %v): %s %d, want %s %d", text(y), d, text(got), e, text(want), code)
	}
}

func isRefused(t *testing.T, y api.Tally, d api.Deed, code api.Errno) {
	t.Helper()
	isDo(t, y, d, api.Tally{}, code)
}

func isMerge(t *testing.T, a, b, want api.Tally, code api.Errno) {
	t.Helper()
	if got, e := tally.Merge(a, b); !same(got, want) || e != code {
		t.Errorf("Merge(%s, %s): %s %d, want %s %d", text(a), text(b), text(got), e, text(want), code)
	}
}

// isMergeBoth checks a merge, whichever stands first.
func isMergeBoth(t *testing.T, a, b, want api.Tally, code api.Errno) {
	t.Helper()
	isMerge(t, a, b, want, code)
	isMerge(t, b, a, want, code)
}

// isWrong checks that all of the package refuse a tally, whatever else is right or wrong.
func isWrong(t *testing.T, y api.Tally) {
	t.Helper()
	isMay(t, y, false)
	for _, who := range []int{0, 1, 7, -1, 8, math.MaxInt, math.MinInt} {
		isLeft(t, y, who, 0, api.ErrForm)
	}
	for _, d := range []api.Deed{
		mint(0, 1), move(0, 1, 1), use(0, 1),
		{}, {Kind: 4, Who: -1, To: -1, Count: -1}, mint(-1, 1), mint(99, 1), use(8, 1), move(0, 0, 1), move(0, -1, 1), move(0, 8, 1),
		mint(0, 0), mint(0, most+1), use(0, -1), use(0, most), move(0, 1, most), mint(0, most),
	} {
		isRefused(t, y, d, api.ErrForm)
	}
	for _, branches := range []int{1, 2, 3, 8, len(y.Used), len(y.Moves)} {
		if 1 <= branches && branches <= 8 {
			isMergeBoth(t, y, filled(branches, 0), api.Tally{}, api.ErrForm)
		}
	}
	isMerge(t, y, y, api.Tally{}, api.ErrForm)
}

// isRight checks that a tally is taken by all of the package.
func isRight(t *testing.T, y api.Tally) {
	t.Helper()
	isMay(t, y, true)
	isMerge(t, y, y, y, api.OK)
	for who := range y.Used {
		isLeft(t, y, who, leftOf(y, who), api.OK)
		if _, e := tally.Do(y, mint(who, 1)); e != api.OK && e != api.ErrOver {
			t.Errorf("Do(%v, Mint): %d", y, e)
		}
	}
}

// leftOf is what a branch has left, by the words of the document: what was given it, gift by gift, then what it gave, then what it used.
func leftOf(y api.Tally, who int) int {
	left := 0
	for from, gifts := range y.Moves {
		for to, count := range gifts {
			switch {
			case to == who:
				left += count
			case from == who:
				left -= count
			}
		}
	}
	return left - y.Used[who]
}

func TestTalliesByTheirCountOfBranches(t *testing.T) { // P5.1
	for n := 1; n <= 8; n++ {
		isRight(t, filled(n, 0))
		isRight(t, filled(n, 1))
		isRight(t, filled(n, most))
	}
	isWrong(t, api.Tally{})
	isWrong(t, api.Tally{Moves: [][]int{}, Used: []int{}})
	for _, n := range []int{9, 10, 16, 257} {
		isWrong(t, filled(n, 0))
	}
}

func TestTalliesByTheirCountOfRows(t *testing.T) { // P5.1
	for n := 1; n <= 8; n++ {
		for count := range 11 {
			if count == n {
				continue
			}
			y := filled(n, 0)
			y.Moves = slices.Repeat(rows(make([]int, n)), count)
			isWrong(t, y)
			y = filled(n, 0)
			y.Used = make([]int, count)
			isWrong(t, y)
			y = filled(n, 0)
			y.Moves = slices.Repeat(rows(make([]int, count)), n)
			isWrong(t, y)
		}
		isWrong(t, api.Tally{Moves: filled(n, 0).Moves})
		isWrong(t, api.Tally{Used: make([]int, n)})
		isWrong(t, api.Tally{Moves: make([][]int, n), Used: make([]int, n)})
	}
}

func TestTalliesByTheLengthOfEachRow(t *testing.T) { // P5.1
	for n := 1; n <= 8; n++ {
		for place := range n {
			for length := range 11 {
				if length == n {
					continue
				}
				y := filled(n, 0)
				y.Moves[place] = make([]int, length)
				isWrong(t, y)
			}
			y := filled(n, 0)
			y.Moves[place] = nil
			isWrong(t, y)
			// As many numbers in all as there should be.
			if place > 0 {
				y = filled(n, 0)
				y.Moves[place] = make([]int, n-1)
				y.Moves[place-1] = make([]int, n+1)
				isWrong(t, y)
				y.Moves[place], y.Moves[place-1] = y.Moves[place-1], y.Moves[place]
				isWrong(t, y)
			}
		}
	}
	// A square, and as many Used as one of its sides has not.
	isWrong(t, of([]int{0, 0}, []int{1, 2}))
	isWrong(t, of([]int{0}, []int{1, 2}))
	isWrong(t, of([]int{0}, []int{1}, []int{2}))
	isWrong(t, of([]int{0, 0}, []int{1}, []int{2}))
	isWrong(t, of([]int{0, 0}, []int{1, 2, 3}, []int{4, 5, 6}))
}

func TestEachNumberIsAsked(t *testing.T) { // P5.1
	for n := 1; n <= 8; n++ {
		for place := range numbers(filled(n, 3)) {
			for _, right := range []int{0, 1, 7, 8, 255, 256, 65536, most - 1, most} {
				y := filled(n, 3)
				*numbers(y)[place] = right
				isRight(t, y)
			}
			for _, wrong := range noCounts {
				y := filled(n, 3)
				*numbers(y)[place] = wrong
				isWrong(t, y)
			}
		}
	}
}

func TestWhatIsLeftWrittenOut(t *testing.T) { // P5.2
	for _, c := range []struct {
		y    api.Tally
		left []int
	}{
		{of([]int{0}, []int{0}), []int{0}},
		{of([]int{0}, []int{9}), []int{9}},
		{of([]int{4}, []int{9}), []int{5}},
		{of([]int{9}, []int{9}), []int{0}},
		// Below 0: of what was not heard of yet.
		{of([]int{10}, []int{9}), []int{-1}},
		{of([]int{most}, []int{0}), []int{-most}},
		{of([]int{0}, []int{most}), []int{most}},
		{of([]int{0, 3}, []int{9, 4}, []int{0, 0}), []int{5, 1}},
		{of([]int{0, 0}, []int{0, 4}, []int{0, 0}), []int{-4, 4}},
		{of([]int{0, 0}, []int{0, 0}, []int{4, 0}), []int{4, -4}},
		// There and back, and what each has from outside.
		{of([]int{1, 2}, []int{10, 3}, []int{5, 20}), []int{11, 16}},
		{of([]int{0, 0}, []int{most, 0}, []int{most, most}), []int{2 * most, 0}},
		{of([]int{1, 2, 4}, []int{8, 16, 32}, []int{64, 128, 256}, []int{512, 1024, 2048}), []int{535, 846, 796}},
	} {
		isMay(t, c.y, true)
		for who, left := range c.left {
			isLeft(t, c.y, who, left, api.OK)
		}
	}
	// The greatest and the least that there can be.
	y := filled(8, 0)
	for i := range y.Moves {
		y.Moves[i][7] = most
		y.Moves[0][i] = most
	}
	y.Moves[0][0], y.Used[0] = 0, most
	isLeft(t, y, 7, 8*most, api.OK)
	isLeft(t, y, 0, -8*most, api.OK)
}

// anyTally takes a tally by chance, the same at each run, with numbers below a bound.
func anyTally(r *rand.Rand, branches, below int) api.Tally {
	y := filled(branches, 0)
	for _, n := range numbers(y) {
		*n = r.Intn(below)
	}
	return y
}

func TestWhatIsLeftOfMany(t *testing.T) { // P5.2
	r := rand.New(rand.NewSource(5))
	for n := 1; n <= 8; n++ {
		for _, below := range []int{2, 10, most + 1} {
			for range 200 {
				y := anyTally(r, n, below)
				for who := range n {
					isLeft(t, y, who, leftOf(y, who), api.OK)
				}
			}
		}
	}
}

func TestEachNumberCountsInWhatIsLeft(t *testing.T) { // P5.2
	for n := 1; n <= 8; n++ {
		for who := range n {
			for from := range n {
				y := filled(n, 0)
				y.Used[from] = 5
				want := 0
				if from == who {
					want = -5
				}
				isLeft(t, y, who, want, api.OK)
				for to := range n {
					y := filled(n, 0)
					y.Moves[from][to] = 5
					want := 0
					switch {
					case to == who:
						want = 5
					case from == who:
						want = -5
					}
					isLeft(t, y, who, want, api.OK)
				}
			}
		}
	}
}

func TestLeftRefusesWhatIsNoBranch(t *testing.T) { // P5.2
	for n := 1; n <= 8; n++ {
		isLeft(t, filled(n, 1), 0, 0, api.OK)
		isLeft(t, filled(n, 1), n-1, 0, api.OK)
		for _, who := range noBranches(n) {
			isLeft(t, filled(n, 1), who, 0, api.ErrRange)
			isLeft(t, filled(n, most), who, 0, api.ErrRange)
		}
	}
}

func TestDeedsWrittenOut(t *testing.T) { // P5.3
	none := filled(2, 0)
	some := of([]int{0, 3}, []int{9, 4}, []int{0, 0})
	for _, c := range []struct {
		y    api.Tally
		d    api.Deed
		want api.Tally
		code api.Errno
	}{
		{none, mint(0, 9), of([]int{0, 0}, []int{9, 0}, []int{0, 0}), api.OK},
		{none, mint(1, 9), of([]int{0, 0}, []int{0, 0}, []int{0, 9}), api.OK},
		{some, mint(0, 1), of([]int{0, 3}, []int{10, 4}, []int{0, 0}), api.OK},
		{some, mint(1, 1), of([]int{0, 3}, []int{9, 4}, []int{0, 1}), api.OK},
		{some, move(0, 1, 1), of([]int{0, 3}, []int{9, 5}, []int{0, 0}), api.OK},
		{some, move(1, 0, 1), of([]int{0, 3}, []int{9, 4}, []int{1, 0}), api.OK},
		{some, use(0, 1), of([]int{1, 3}, []int{9, 4}, []int{0, 0}), api.OK},
		{some, use(1, 1), of([]int{0, 4}, []int{9, 4}, []int{0, 0}), api.OK},
		// Just what is left, and one more.
		{some, move(0, 1, 5), of([]int{0, 3}, []int{9, 9}, []int{0, 0}), api.OK},
		{some, move(0, 1, 6), api.Tally{}, api.ErrLess},
		{some, use(0, 5), of([]int{5, 3}, []int{9, 4}, []int{0, 0}), api.OK},
		{some, use(0, 6), api.Tally{}, api.ErrLess},
		{some, move(1, 0, 2), api.Tally{}, api.ErrLess},
		{some, use(1, 2), api.Tally{}, api.ErrLess},
		{none, use(0, 1), api.Tally{}, api.ErrLess},
		{none, move(1, 0, 1), api.Tally{}, api.ErrLess},
		// From what is below 0, a Mint alone.
		{of([]int{7}, []int{2}), use(0, 1), api.Tally{}, api.ErrLess},
		{of([]int{7}, []int{2}), mint(0, 1), of([]int{7}, []int{3}), api.OK},
		{of([]int{7, 0}, []int{2, 0}, []int{0, 9}), move(0, 1, 1), api.Tally{}, api.ErrLess},
		{of([]int{7, 0}, []int{2, 0}, []int{0, 9}), move(1, 0, 9), of([]int{7, 0}, []int{2, 0}, []int{9, 9}), api.OK},
	} {
		isDo(t, c.y, c.d, c.want, c.code)
	}
}

func TestADeedChangesOneNumber(t *testing.T) { // P5.3
	for n := 1; n <= 8; n++ {
		y := filled(n, 7)
		for who := range n {
			y.Moves[who][who] = 1000
		}
		for who := range n {
			for _, count := range []int{1, 2, 9} {
				want := clone(y)
				want.Moves[who][who] += count
				isDo(t, y, mint(who, count), want, api.OK)
				want = clone(y)
				want.Used[who] += count
				isDo(t, y, use(who, count), want, api.OK)
				for to := range n {
					if to != who {
						want = clone(y)
						want.Moves[who][to] += count
						isDo(t, y, move(who, to, count), want, api.OK)
					}
				}
			}
		}
	}
}

func TestToIsAskedOfAMoveAlone(t *testing.T) { // P5.3
	for n := 1; n <= 8; n++ {
		y := filled(n, 0)
		y.Moves[0][0] = 9
		for _, to := range append([]int{0, n - 1}, noBranches(n)...) {
			want := clone(y)
			want.Moves[0][0] = 13
			isDo(t, y, api.Deed{Kind: api.Mint, To: to, Count: 4}, want, api.OK)
			want = clone(y)
			want.Used[0] = 4
			isDo(t, y, api.Deed{Kind: api.Use, To: to, Count: 4}, want, api.OK)
		}
	}
}

// changed is a tally of three branches with one number set, beside what Who needs to have enough left, or too little.
func changed(d api.Deed, number, spare int) api.Tally {
	y := filled(3, 0)
	switch d.Kind {
	case api.Mint:
		y.Moves[d.Who][d.Who] = number
	case api.Move:
		y.Moves[d.Who][d.To] = number
	case api.Use:
		y.Used[d.Who] = number
	}
	if d.Kind != api.Mint {
		// In parts: no one number may be above MaxCount.
		spare += number
		y.Moves[d.Who][d.Who] = spare / 2
		y.Moves[(d.Who+1)%3][d.Who] = spare - spare/2
	}
	return y
}

// allDeeds are the right deeds of three branches with this Count.
func allDeeds(count int) []api.Deed {
	var l []api.Deed
	for who := range 3 {
		l = append(l, mint(who, count), use(who, count))
		for to := range 3 {
			if to != who {
				l = append(l, move(who, to, count))
			}
		}
	}
	return l
}

func TestDeedsUpToMaxCount(t *testing.T) { // P5.3
	for _, count := range []int{1, 2, 255, 256, most / 2, most - 1, most} {
		for _, d := range allDeeds(count) {
			y := changed(d, most-count, count)
			isDo(t, y, d, changedBy(y, d), api.OK)
			isRefused(t, changed(d, most-count+1, count), d, api.ErrOver)
			isRefused(t, changed(d, most, count), d, api.ErrOver)
			if d.Kind == api.Mint {
				continue
			}
			// What is too little is told ahead of what would be too great.
			isRefused(t, changed(d, most-count, count-1), d, api.ErrLess)
			isRefused(t, changed(d, most-count+1, count-1), d, api.ErrLess)
			isRefused(t, changed(d, most, count-1), d, api.ErrLess)
		}
	}
}

// changedBy is a tally with the one number raised that a deed names.
func changedBy(y api.Tally, d api.Deed) api.Tally {
	y = clone(y)
	switch d.Kind {
	case api.Mint:
		y.Moves[d.Who][d.Who] += d.Count
	case api.Move:
		y.Moves[d.Who][d.To] += d.Count
	case api.Use:
		y.Used[d.Who] += d.Count
	}
	return y
}

func TestOtherNumbersAtMaxCountHinderNoDeed(t *testing.T) { // P5.3
	y := filled(3, most)
	for who := range 3 {
		y.Used[who] = 0
		isDo(t, y, use(who, most), changedBy(y, use(who, most)), api.OK)
		isRefused(t, y, mint(who, 1), api.ErrOver)
		isRefused(t, y, move(who, (who+1)%3, 1), api.ErrOver)
	}
	// It has more left than one number may be: of it, up to MaxCount is given at a time.
	y = of([]int{0, 0, 0}, []int{most, 0, 0}, []int{most, most, 0}, []int{most, 0, most})
	isLeft(t, y, 0, 3*most, api.OK)
	isDo(t, y, move(0, 1, most), changedBy(y, move(0, 1, most)), api.OK)
	isRefused(t, y, move(0, 1, most+1), api.ErrRange)
	isRefused(t, y, use(0, 2*most), api.ErrRange)
}

func TestDoRefusesWhatIsNoKindAheadOfAllButTheTally(t *testing.T) { // P5.3
	for _, y := range []api.Tally{filled(2, 0), filled(2, most), of([]int{0, 3}, []int{9, 4}, []int{0, 0})} {
		for _, kind := range noKinds {
			for _, who := range []int{0, 1, 2, -1, math.MaxInt, math.MinInt} {
				for _, to := range []int{0, 1, 2, -1, math.MaxInt, math.MinInt} {
					for _, count := range []int{0, 1, most, most + 1, -1, math.MinInt} {
						isRefused(t, y, api.Deed{Kind: kind, Who: who, To: to, Count: count}, api.ErrKind)
					}
				}
			}
		}
	}
}

func TestDoRefusesWhatIsNoBranch(t *testing.T) { // P5.3
	for n := 1; n <= 8; n++ {
		y := filled(n, 0)
		for who := range n {
			y.Moves[who][who] = 9
		}
		for _, wrong := range noBranches(n) {
			// 1 could be; the others would be too much, too great, or no Count.
			for _, count := range []int{1, 9, 10, most, 0, -1, most + 1} {
				isRefused(t, y, mint(wrong, count), api.ErrRange)
				isRefused(t, y, use(wrong, count), api.ErrRange)
				for right := range n {
					isRefused(t, y, move(wrong, right, count), api.ErrRange)
					isRefused(t, y, move(right, wrong, count), api.ErrRange)
				}
				isRefused(t, y, move(wrong, wrong, count), api.ErrRange)
			}
		}
	}
}

func TestDoRefusesAMoveToOneself(t *testing.T) { // P5.3
	for n := 1; n <= 8; n++ {
		for _, y := range []api.Tally{filled(n, 0), filled(n, 5), filled(n, most)} {
			for who := range n {
				for _, count := range []int{1, 5, most, 0, most + 1} {
					isRefused(t, y, move(who, who, count), api.ErrRange)
				}
			}
		}
	}
}

func TestDoRefusesWhatIsNoCount(t *testing.T) { // P5.3
	for _, count := range append([]int{0}, noCounts...) {
		// Of the first much could be given, of the second nothing more, of the third nothing at all.
		for _, y := range []api.Tally{of([]int{0, 0}, []int{most, 0}, []int{0, most}), filled(2, most), filled(2, 0)} {
			for who := range 2 {
				isRefused(t, y, mint(who, count), api.ErrRange)
				isRefused(t, y, use(who, count), api.ErrRange)
				isRefused(t, y, move(who, 1-who, count), api.ErrRange)
			}
		}
	}
}

// told is what a deed comes to, by the words of the document: each error in the order named.
func told(y api.Tally, d api.Deed) (api.Tally, api.Errno) {
	among := func(n, first, last int) bool { return first <= n && n <= last }
	last := len(y.Used) - 1
	for _, rule := range []struct {
		broken func() bool
		code   api.Errno
	}{
		{func() bool { return !among(d.Kind, 1, 3) }, api.ErrKind},
		{func() bool { return !among(d.Who, 0, last) }, api.ErrRange},
		{func() bool { return d.Kind == 2 && !among(d.To, 0, last) }, api.ErrRange},
		{func() bool { return d.Kind == 2 && d.To == d.Who }, api.ErrRange},
		{func() bool { return !among(d.Count, 1, most) }, api.ErrRange},
		{func() bool { return d.Kind != 1 && leftOf(y, d.Who) < d.Count }, api.ErrLess},
	} {
		if rule.broken() {
			return api.Tally{}, rule.code
		}
	}
	behind := changedBy(y, d)
	for _, n := range numbers(behind) {
		if *n > most {
			return api.Tally{}, api.ErrOver
		}
	}
	return behind, api.OK
}

// allTallies are the tallies of so many branches, each of whose numbers is one of these.
func allTallies(branches int, of ...int) []api.Tally {
	all := []api.Tally{filled(branches, 0)}
	for place := range numbers(all[0]) {
		var more []api.Tally
		for _, y := range all {
			for _, n := range of {
				c := clone(y)
				*numbers(c)[place] = n
				more = append(more, c)
			}
		}
		all = more
	}
	return all
}

func TestAllDeedsOfAllSmallTallies(t *testing.T) { // P5.3
	codes := map[api.Errno]int{}
	for _, y := range append(allTallies(1, 0, 1, 2, most-1, most), allTallies(2, 0, 1, most)...) {
		for kind := range 5 {
			for who := -1; who <= 2; who++ {
				for to := -1; to <= 2; to++ {
					for _, count := range []int{-1, 0, 1, 2, most - 1, most, most + 1} {
						d := api.Deed{Kind: kind, Who: who, To: to, Count: count}
						want, code := told(y, d)
						isDo(t, y, d, want, code)
						codes[code]++
					}
				}
			}
		}
	}
	for _, code := range []api.Errno{api.OK, api.ErrKind, api.ErrRange, api.ErrLess, api.ErrOver} {
		if codes[code] < 1000 {
			t.Errorf("%d came up %d times: the deeds are badly chosen", code, codes[code])
		}
	}
}

func TestManyDeedsAreBookedAsPursesAre(t *testing.T) { // P5.2, P5.3
	r := rand.New(rand.NewSource(6))
	for n := 1; n <= 8; n++ {
		y := filled(n, 0)
		purses := make([]int, n)
		for range 2000 {
			d := api.Deed{Kind: 1 + r.Intn(3), Who: r.Intn(n), To: r.Intn(n), Count: 1 + r.Intn(20)}
			code := api.OK
			switch {
			case d.Kind == api.Move && d.To == d.Who:
				code = api.ErrRange
			case d.Kind != api.Mint && purses[d.Who] < d.Count:
				code = api.ErrLess
			case d.Kind == api.Mint:
				purses[d.Who] += d.Count
			case d.Kind == api.Move:
				purses[d.Who] -= d.Count
				purses[d.To] += d.Count
			case d.Kind == api.Use:
				purses[d.Who] -= d.Count
			}
			if code != api.OK {
				isRefused(t, y, d, code)
				continue
			}
			isDo(t, y, d, changedBy(y, d), api.OK)
			y, _ = tally.Do(y, d)
			for who, purse := range purses {
				isLeft(t, y, who, purse, api.OK)
			}
			if t.Failed() {
				return
			}
		}
	}
}

func TestMergesWrittenOut(t *testing.T) { // P5.4
	for _, c := range []struct{ a, b, want api.Tally }{
		{of([]int{0}, []int{0}), of([]int{0}, []int{0}), of([]int{0}, []int{0})},
		{of([]int{1}, []int{2}), of([]int{3}, []int{4}), of([]int{3}, []int{4})},
		// Each is greater somewhere.
		{of([]int{3}, []int{2}), of([]int{1}, []int{4}), of([]int{3}, []int{4})},
		{of([]int{0}, []int{most}), of([]int{most}, []int{0}), of([]int{most}, []int{most})},
		{of([]int{0, 0}, []int{9, 0}, []int{0, 0}), of([]int{0, 3}, []int{9, 4}, []int{0, 0}), of([]int{0, 3}, []int{9, 4}, []int{0, 0})},
		{
			of([]int{1, 8}, []int{2, 7}, []int{3, 6}),
			of([]int{5, 4}, []int{6, 3}, []int{7, 2}),
			of([]int{5, 8}, []int{6, 7}, []int{7, 6}),
		},
		// What may be, also if somebody has below 0 left of it.
		{of([]int{5, 0}, []int{0, 0}, []int{0, 0}), of([]int{0, 0}, []int{0, 5}, []int{0, 0}), of([]int{5, 0}, []int{0, 5}, []int{0, 0})},
	} {
		isMergeBoth(t, c.a, c.b, c.want, api.OK)
	}
}

func TestAllMergesOfSmallTallies(t *testing.T) { // P5.4
	for _, all := range [][]api.Tally{allTallies(1, 0, 1, 2, most-1, most), allTallies(2, 0, most)} {
		for _, a := range all {
			for _, b := range all {
				isMerge(t, a, b, greatest(a, b), api.OK)
			}
		}
	}
}

// greatest has the greatest of some tallies at each place.
func greatest(l ...api.Tally) api.Tally {
	y := clone(l[0])
	for place, n := range numbers(y) {
		for _, other := range l {
			*n = max(*n, *numbers(other)[place])
		}
	}
	return y
}

func TestManyMerges(t *testing.T) { // P5.4
	r := rand.New(rand.NewSource(7))
	for n := 1; n <= 8; n++ {
		for _, below := range []int{2, 5, most + 1} {
			for range 60 {
				a, b, c := anyTally(r, n, below), anyTally(r, n, below), anyTally(r, n, below)
				isMergeBoth(t, a, b, greatest(a, b), api.OK)
				isMerge(t, a, a, a, api.OK)
				// In whatever order, and however often.
				ab, _ := tally.Merge(a, b)
				bc, _ := tally.Merge(b, c)
				isMergeBoth(t, ab, c, greatest(a, b, c), api.OK)
				isMergeBoth(t, a, bc, greatest(a, b, c), api.OK)
				isMergeBoth(t, ab, b, ab, api.OK)
			}
		}
	}
}

func TestEachNumberIsMerged(t *testing.T) { // P5.4
	for n := 1; n <= 8; n++ {
		for place := range numbers(filled(n, 3)) {
			for _, other := range []int{0, 2, 3, 4, most} {
				b := filled(n, 3)
				*numbers(b)[place] = other
				want := filled(n, 3)
				*numbers(want)[place] = max(3, other)
				isMergeBoth(t, filled(n, 3), b, want, api.OK)
			}
		}
	}
}

func TestMergeRefusesOtherSizes(t *testing.T) { // P5.4
	for n := 1; n <= 8; n++ {
		for m := 1; m <= 8; m++ {
			if n == m {
				isMerge(t, filled(n, 1), filled(m, 2), filled(n, 2), api.OK)
				continue
			}
			isMerge(t, filled(n, 1), filled(m, 2), api.Tally{}, api.ErrSize)
			isMerge(t, filled(n, 0), filled(m, 0), api.Tally{}, api.ErrSize)
			// One that may not be is told ahead.
			wrong := filled(n, 1)
			wrong.Used[n-1] = -1
			isMergeBoth(t, wrong, filled(m, 2), api.Tally{}, api.ErrForm)
		}
		for _, m := range []int{0, 9, 10} {
			isMergeBoth(t, filled(n, 1), filled(m, 2), api.Tally{}, api.ErrForm)
		}
	}
}

// anyDeed is a deed of a branch by chance: it knows no more than the tally it has.
func anyDeed(r *rand.Rand, who, branches int) api.Deed {
	return api.Deed{Kind: 1 + r.Intn(3), Who: who, To: r.Intn(branches), Count: 1 + r.Intn(9)}
}

func TestNeverMoreIsUsedThanWasGiven(t *testing.T) { // what comes of P5.1 to P5.4
	r := rand.New(rand.NewSource(8))
	used := 0
	for n := 1; n <= 8; n++ {
		for range 20 {
			// What each knows, and what was told and is still under way.
			knows := slices.Repeat([]api.Tally{filled(n, 0)}, n)
			var letters []api.Tally
			minted, spent := 0, 0
			for range 200 {
				who := r.Intn(n)
				if r.Intn(2) == 0 && len(letters) > 0 {
					y, e := tally.Merge(knows[who], letters[r.Intn(len(letters))])
					if e != api.OK {
						t.Fatalf("a letter is refused: %d", e)
					}
					knows[who] = y
				}
				d := anyDeed(r, who, n)
				if y, e := tally.Do(knows[who], d); e == api.OK {
					knows[who] = y
					letters = append(letters, y)
					switch d.Kind {
					case api.Mint:
						minted += d.Count
					case api.Use:
						spent += d.Count
					}
				}
				// What a branch did itself it knows: it never has below 0.
				if left, e := tally.Left(knows[who], who); left < 0 || e != api.OK {
					t.Fatalf("%d has %d %d left of %v", who, left, e, knows[who])
				}
				if spent > minted {
					t.Fatalf("of %d were used %d, at %v", minted, spent, knows)
				}
			}
			used += spent
			// When all have learnt of all, what is left is what was given less what was used.
			whole := greatest(knows...)
			left := 0
			for who := range n {
				l, e := tally.Left(whole, who)
				if l < 0 || e != api.OK {
					t.Fatalf("%d has %d %d left of %v", who, l, e, whole)
				}
				left += l
			}
			if left != minted-spent {
				t.Fatalf("%d are left of %d less %d", left, minted, spent)
			}
		}
	}
	if used < 1000 {
		t.Errorf("%d were used: the deeds are badly chosen", used)
	}
}

// roomy is a tally with room behind each of its lists, and these lists with their room.
func roomy(y api.Tally) (api.Tally, api.Tally) {
	whole := api.Tally{Used: append(slices.Clone(y.Used), 7, 8, 9)}
	part := api.Tally{Used: whole.Used[:len(y.Used)]}
	for _, row := range y.Moves {
		whole.Moves = append(whole.Moves, append(slices.Clone(row), 7, 8, 9))
	}
	whole.Moves = append(whole.Moves, []int{4, 5, 6})
	for i, row := range y.Moves {
		part.Moves = append(part.Moves, whole.Moves[i][:len(row)])
	}
	part.Moves = append(part.Moves, whole.Moves[len(y.Moves)])[:len(y.Moves)]
	return part, whole
}

func TestListsAndTheRoomBehindThemAreLeft(t *testing.T) { // 'What holds everywhere'
	tallies := []api.Tally{
		of([]int{0, 3}, []int{9, 4}, []int{0, 0}),
		of([]int{5, 1}, []int{6, 8}, []int{9, 30}),
		filled(2, most),
		of([]int{0, -1}, []int{9, 4}, []int{0, 0}),
		of([]int{0, 3}, []int{9, 4}),
		filled(3, 5),
	}
	for _, first := range tallies {
		for _, second := range tallies {
			for _, d := range append(allDeeds(1), allDeeds(most)...) {
				a, a2 := roomy(first)
				b, b2 := roomy(second)
				wantA, wantB := clone(a2), clone(b2)
				tally.May(a)
				tally.Left(a, d.Who)
				tally.Do(a, d)
				tally.Merge(a, b)
				tally.Merge(a, a)
				if !same(a2, wantA) || !same(b2, wantB) {
					t.Errorf("%v and %v became %v and %v", wantA, wantB, a2, b2)
				}
				// The room behind the lists of rows, too.
				if !slices.Equal(a.Moves[:len(a.Moves)+1][len(a.Moves)], []int{4, 5, 6}) {
					t.Errorf("the room behind the rows of %v was changed", a)
				}
			}
		}
	}
}

// spoil writes over a list and the room behind it.
func spoil[T any](l []T, v T) {
	l = l[:cap(l)]
	for i := range l {
		l[i] = v
	}
}

// sharesNothing checks that no two lists of a tally share memory: each is written over with a number of its own.
func sharesNothing(t *testing.T, what string, y api.Tally) {
	t.Helper()
	lists := append(slices.Clone(y.Moves), y.Used)
	for i, l := range lists {
		spoil(l, -1-i)
	}
	for i, l := range lists {
		if slices.ContainsFunc(l[:cap(l)], func(n int) bool { return n != -1-i }) {
			t.Errorf("%s: a change of another list is seen in list %d", what, i)
		}
	}
	spoil(y.Moves, nil)
}

// isNew checks that an answer shares nothing with what was handed in, with another answer, nor within itself.
func isNew(t *testing.T, what string, answer func(l ...api.Tally) (api.Tally, api.Errno), in ...api.Tally) {
	t.Helper()
	var kept []api.Tally
	for _, y := range in {
		kept = append(kept, clone(y))
	}
	first, e := answer(in...)
	second, _ := answer(in...)
	if e != api.OK {
		t.Fatalf("%s: %d", what, e)
	}
	want := clone(second)
	sharesNothing(t, what, first)
	if !slices.EqualFunc(in, kept, same) || !same(second, want) {
		t.Errorf("%s: a change of one answer is seen elsewhere", what)
	}
	for _, y := range in {
		for _, row := range y.Moves {
			spoil(row, -9)
		}
		spoil(y.Moves, nil)
		spoil(y.Used, -9)
	}
	if !same(second, want) {
		t.Errorf("%s keeps what it was handed", what)
	}
}

func TestAnswersAreNewMemory(t *testing.T) { // 'What holds everywhere'
	merge := func(l ...api.Tally) (api.Tally, api.Errno) { return tally.Merge(l[0], l[len(l)-1]) }
	for n := 1; n <= 8; n++ {
		low, high := filled(n, 1), filled(n, 4)
		mixed := filled(n, 2)
		mixed.Moves[0][0], mixed.Used[n-1] = 9, 0
		for _, c := range [][2]api.Tally{{low, high}, {high, low}, {low, low}, {mixed, low}, {low, mixed}} {
			isNew(t, "Merge", merge, clone(c[0]), clone(c[1]))
			isNew(t, "Merge with itself", merge, clone(c[0]))
		}
		for who := range n {
			deeds := []api.Deed{mint(who, 1), use(who, 1)}
			if n > 1 {
				deeds = append(deeds, move(who, (who+1)%n, 1))
			}
			for _, d := range deeds {
				do := func(l ...api.Tally) (api.Tally, api.Errno) { return tally.Do(l[0], d) }
				y := filled(n, 1)
				y.Moves[who][who] = 20
				isNew(t, "Do", do, y)
			}
		}
	}
}

func TestRowsThatAreOneListAreHandedOutApart(t *testing.T) { // 'What holds everywhere'
	for n := 2; n <= 8; n++ {
		row := slices.Repeat([]int{2}, n)
		row[0] = 5
		y := api.Tally{Moves: slices.Repeat(rows(row), n), Used: row}
		kept := clone(y)
		for _, d := range []api.Deed{mint(n-1, 3), use(0, 1), move(0, n-1, 1)} {
			isDo(t, y, d, changedBy(y, d), api.OK)
			behind, _ := tally.Do(y, d)
			sharesNothing(t, "Do", behind)
		}
		isMergeBoth(t, y, filled(n, 3), greatest(kept, filled(n, 3)), api.OK)
		both, _ := tally.Merge(y, y)
		sharesNothing(t, "Merge", both)
		if !same(y, kept) {
			t.Errorf("%v became %v", kept, y)
		}
	}
}

// Example: as README.md tells it.
func Example() {
	none := api.Tally{Moves: [][]int{{0, 0}, {0, 0}}, Used: []int{0, 0}}
	given, _ := tally.Do(none, api.Deed{Kind: api.Mint, Who: 0, Count: 9})
	here, _ := tally.Do(given, api.Deed{Kind: api.Use, Who: 0, Count: 2})
	there, _ := tally.Do(given, api.Deed{Kind: api.Mint, Who: 1, Count: 5})
	both, _ := tally.Merge(here, there)
	fmt.Println(both)
	moved, _ := tally.Do(both, api.Deed{Kind: api.Move, Who: 0, To: 1, Count: 4})
	fmt.Println(moved)
	fmt.Println(tally.Left(moved, 0))
	fmt.Println(tally.Left(moved, 1))
	fmt.Println(tally.Do(moved, api.Deed{Kind: api.Use, Who: 0, Count: 4}))
	// Output:
	// {[[9 0] [0 5]] [2 0]}
	// {[[9 4] [0 5]] [2 0]}
	// 3 0
	// 9 0
	// {[] []} 9
}
