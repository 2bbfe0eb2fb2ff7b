package clock_test

import (
	"fmt"
	"math"
	"math/rand"
	"slices"
	"testing"

	"splittally/api"
	"splittally/clock"
)

// most is the greatest number of a clock (MaxCount), written out.
const most = 1048576

// noNumbers are no numbers of a clock: next to the ends, what wraps round to one, the ends of all numbers.
var noNumbers = []int{-1, -2, -most, most + 1, most + 2, 2 * most, 1 << 32, 1<<32 + 1, -1 << 32, math.MaxInt, math.MinInt, math.MinInt + 1}

// noCounts are no counts of sites.
var noCounts = []int{0, -1, -2, -8, 9, 10, 16, 256, 1<<32 + 1, math.MaxInt, math.MinInt, math.MinInt + 1}

// same is a list of n times the same.
func same[T any](n int, v T) []T { return slices.Repeat([]T{v}, n) }

func act(who int) api.Event           { return api.Event{Kind: api.Act, Who: who} }
func send(who int) api.Event          { return api.Event{Kind: api.Send, Who: who} }
func hear(who, of int) api.Event      { return api.Event{Kind: api.Hear, Who: who, Of: of} }
func many(l ...api.Event) []api.Event { return l }

func isMay(t *testing.T, c []int, want bool) {
	t.Helper()
	if got := clock.May(c); got != want {
		t.Errorf("May(%v): %v, want %v", c, got, want)
	}
}

func isJoin(t *testing.T, a, b, want []int, code api.Errno) {
	t.Helper()
	if got, e := clock.Join(a, b); !slices.Equal(got, want) || e != code {
		t.Errorf("Join(%v, %v): %v %d, want %v %d", a, b, got, e, want, code)
	}
}

func isOrder(t *testing.T, a, b []int, want int, code api.Errno) {
	t.Helper()
	if got, e := clock.Order(a, b); got != want || e != code {
		t.Errorf("Order(%v, %v): %d %d, want %d %d", a, b, got, e, want, code)
	}
}

// isRefused checks that Join and Order refuse two clocks, whichever stands first.
func isRefused(t *testing.T, a, b []int, code api.Errno) {
	t.Helper()
	isJoin(t, a, b, nil, code)
	isJoin(t, b, a, nil, code)
	isOrder(t, a, b, 0, code)
	isOrder(t, b, a, 0, code)
}

func isPlay(t *testing.T, sites int, l []api.Event, want [][]int, code api.Errno) {
	t.Helper()
	if got, e := clock.Play(sites, l); !slices.EqualFunc(got, want, slices.Equal) || e != code {
		t.Errorf("Play(%d, %v): %v %d, want %v %d", sites, l, got, e, want, code)
	}
}

func TestMayByCountOfNumbers(t *testing.T) { // P3.1
	isMay(t, nil, false)
	isMay(t, []int{}, false)
	for n := 1; n <= 8; n++ {
		isMay(t, make([]int, n), true)
		isMay(t, same(n, 1), true)
		isMay(t, same(n, most), true)
	}
	for _, n := range []int{9, 10, 16, 256, 257, 65536, 100000} {
		isMay(t, make([]int, n), false)
		isMay(t, same(n, most), false)
	}
}

func TestMayByEachNumber(t *testing.T) { // P3.1
	for n := 1; n <= 8; n++ {
		for at := range n {
			c := same(n, 7)
			for _, right := range []int{0, 1, 2, 255, 256, 65536, most - 1, most} {
				c[at] = right
				isMay(t, c, true)
			}
			for _, wrong := range noNumbers {
				c[at] = wrong
				isMay(t, c, false)
			}
		}
	}
}

func TestJoinAndOrderWrittenOut(t *testing.T) { // P3.1
	for _, c := range []struct {
		a, b, join  []int
		there, back int
	}{
		{[]int{0}, []int{0}, []int{0}, 0, 0},
		{[]int{0}, []int{most}, []int{most}, -1, 1},
		{[]int{most}, []int{most}, []int{most}, 0, 0},
		{[]int{most - 1}, []int{most}, []int{most}, -1, 1},
		{[]int{1, 5}, []int{3, 2}, []int{3, 5}, 2, 2},
		{[]int{1, 2}, []int{3, 2}, []int{3, 2}, -1, 1},
		{[]int{3, 1}, []int{3, 2}, []int{3, 2}, -1, 1},
		{[]int{1, 1}, []int{3, 2}, []int{3, 2}, -1, 1},
		{[]int{3, 2}, []int{3, 2}, []int{3, 2}, 0, 0},
		{[]int{0, 1, 0}, []int{1, 0, 0}, []int{1, 1, 0}, 2, 2},
		{[]int{0, 0, 1}, []int{1, 1, 0}, []int{1, 1, 1}, 2, 2},
		// By what stands first, or in all, these would be one ahead of the other.
		{[]int{9, 9, 0}, []int{1, 1, 1}, []int{9, 9, 1}, 2, 2},
		{[]int{0, 9}, []int{9, 0}, []int{9, 9}, 2, 2},
		{[]int{0, most}, []int{most, 0}, []int{most, most}, 2, 2},
		{same(8, 0), same(8, most), same(8, most), -1, 1},
		{same(8, most), same(8, most), same(8, most), 0, 0},
		{[]int{1, 2, 3, 4, 5, 6, 7, 8}, []int{8, 7, 6, 5, 4, 3, 2, 1}, []int{8, 7, 6, 5, 5, 6, 7, 8}, 2, 2},
		{[]int{1, 2, 3, 4, 5, 6, 7, 8}, []int{1, 2, 3, 4, 5, 6, 7, 9}, []int{1, 2, 3, 4, 5, 6, 7, 9}, -1, 1},
	} {
		isJoin(t, c.a, c.b, c.join, api.OK)
		isJoin(t, c.b, c.a, c.join, api.OK)
		isOrder(t, c.a, c.b, c.there, api.OK)
		isOrder(t, c.b, c.a, c.back, api.OK)
	}
}

func TestOrderHangsOnEachNumber(t *testing.T) { // P3.1
	for n := 1; n <= 8; n++ {
		for i := range n {
			a := same(n, 4)
			a[i] = 5
			isOrder(t, a, same(n, 4), 1, api.OK)
			isOrder(t, same(n, 4), a, -1, api.OK)
			for j := range n {
				if j != i {
					b := same(n, 4)
					b[j] = 5
					isOrder(t, a, b, 2, api.OK)
					b[i] = 5
					isOrder(t, a, b, -1, api.OK)
					isOrder(t, b, a, 1, api.OK)
				}
			}
		}
	}
}

// clocksOf are all clocks of so many numbers, each one of the digits.
func clocksOf(count int, digits []int) [][]int {
	if count == 0 {
		return [][]int{nil}
	}
	var out [][]int
	for _, c := range clocksOf(count-1, digits) {
		for _, d := range digits {
			out = append(out, append(slices.Clone(c), d))
		}
	}
	return out
}

// stand tells how two clocks stand by the words of the document: is all of one at most the other, and the other way round?
func stand(a, b []int) int {
	below, above := true, true
	for i := range a {
		below = below && a[i] <= b[i]
		above = above && b[i] <= a[i]
	}
	return map[[2]bool]int{{true, true}: 0, {true, false}: -1, {false, true}: 1, {false, false}: 2}[[2]bool{below, above}]
}

func TestAllPairsOfSmallClocks(t *testing.T) { // P3.1
	for count := 1; count <= 4; count++ {
		all := clocksOf(count, []int{0, 1, most})
		for _, a := range all {
			for _, b := range all {
				want := slices.Clone(a)
				for i, y := range b {
					if y > want[i] {
						want[i] = y
					}
				}
				isJoin(t, a, b, want, api.OK)
				isOrder(t, a, b, stand(a, b), api.OK)
			}
		}
	}
}

func TestTwoClocksThatMayNotBe(t *testing.T) { // P3.1
	var wrong [][]int
	for _, n := range noNumbers {
		wrong = append(wrong, []int{n}, []int{n, 1}, []int{1, n}, append(same(7, 1), n))
	}
	wrong = append(wrong, nil, []int{}, make([]int, 9), same(9, 1), same(100000, 1))
	for _, a := range wrong {
		// With as many numbers, and with not as many: the form is named first.
		for n := 1; n <= 8; n++ {
			isRefused(t, a, same(n, 1), api.ErrForm)
		}
		for _, b := range wrong {
			isRefused(t, a, b, api.ErrForm)
		}
	}
}

func TestTwoClocksOfNotAsManyNumbers(t *testing.T) { // P3.1
	for n := 1; n <= 8; n++ {
		for m := 1; m <= 8; m++ {
			if n != m {
				isRefused(t, same(n, 1), same(m, 1), api.ErrSize)
				isRefused(t, same(n, 0), same(m, most), api.ErrSize)
			}
		}
	}
}

func TestPlaysWrittenOut(t *testing.T) { // P3.2
	for _, c := range []struct {
		sites int
		l     []api.Event
		want  [][]int
	}{
		{1, nil, nil},
		{8, []api.Event{}, nil},
		{1, many(act(0)), [][]int{{1}}},
		{1, many(send(0)), [][]int{{1}}},
		{1, many(act(0), send(0), act(0)), [][]int{{1}, {2}, {3}}},
		{3, many(act(2), act(0), act(2)), [][]int{{0, 0, 1}, {1, 0, 0}, {0, 0, 2}}},
		{2, many(send(0), act(1), hear(1, 0), act(0)), [][]int{{1, 0}, {0, 1}, {1, 2}, {2, 0}}},
		// Heard just behind, and as the first event of a site.
		{2, many(send(0), hear(1, 0)), [][]int{{1, 0}, {1, 1}}},
		// Of its own site: nothing is new but the event.
		{1, many(send(0), hear(0, 0), hear(0, 0)), [][]int{{1}, {2}, {3}}},
		{2, many(send(1), act(1), hear(1, 0), act(1)), [][]int{{0, 1}, {0, 2}, {0, 3}, {0, 4}}},
		// Heard more than once, by one and by others.
		{3, many(send(0), hear(1, 0), hear(1, 0), hear(2, 0), act(0)), [][]int{{1, 0, 0}, {1, 1, 0}, {1, 2, 0}, {1, 0, 1}, {2, 0, 0}}},
		// What was sent is the clock of then, not what its site has come to.
		{2, many(send(0), act(0), act(0), hear(1, 0)), [][]int{{1, 0}, {2, 0}, {3, 0}, {1, 1}}},
		// An older Send heard behind a newer one takes nothing back.
		{2, many(send(0), send(0), hear(1, 1), hear(1, 0)), [][]int{{1, 0}, {2, 0}, {2, 1}, {2, 2}}},
		// By way of another site.
		{3, many(act(0), send(0), hear(1, 1), send(1), hear(2, 3)), [][]int{{1, 0, 0}, {2, 0, 0}, {2, 1, 0}, {2, 2, 0}, {2, 2, 1}}},
		// A Hear hands nothing on by itself, and there and back.
		{2, many(send(0), hear(1, 0), send(1), act(0), hear(0, 2)), [][]int{{1, 0}, {1, 1}, {1, 2}, {2, 0}, {3, 2}}},
		{8, many(act(7), send(7), hear(0, 1)), [][]int{{0, 0, 0, 0, 0, 0, 0, 1}, {0, 0, 0, 0, 0, 0, 0, 2}, {1, 0, 0, 0, 0, 0, 0, 2}}},
	} {
		isPlay(t, c.sites, c.l, c.want, api.OK)
	}
}

func TestOfIsAskedOfAHearAlone(t *testing.T) { // P3.2
	for _, of := range append([]int{0, 1, 2, 3}, noCounts...) {
		for _, kind := range []int{api.Act, api.Send} {
			isPlay(t, 2, many(send(0), act(0), api.Event{Kind: kind, Who: 1, Of: of}), [][]int{{1, 0}, {2, 0}, {0, 1}}, api.OK)
		}
	}
}

// anyEvents takes right events by chance, the same at each run.
func anyEvents(r *rand.Rand, sites, count int) []api.Event {
	var l []api.Event
	var sends []int
	for i := range count {
		e := api.Event{Kind: 1 + r.Intn(3), Who: r.Intn(sites), Of: r.Intn(1000)}
		if e.Kind == api.Hear && len(sends) == 0 {
			e.Kind = api.Act
		}
		if e.Kind == api.Send {
			sends = append(sends, i)
		}
		if e.Kind == api.Hear {
			e.Of = sends[r.Intn(len(sends))]
		}
		l = append(l, e)
	}
	return l
}

// pasts tells of each event which events it could have had to do with, itself too: by paths of events, with no clock.
func pasts(l []api.Event) [][]bool {
	past := make([][]bool, len(l))
	for i, e := range l {
		past[i] = make([]bool, len(l))
		past[i][i] = true
		for j := range i {
			if l[j].Who == e.Who || e.Kind == api.Hear && e.Of == j {
				for k := range past[j] {
					past[i][k] = past[i][k] || past[j][k]
				}
			}
		}
	}
	return past
}

// counted is the clock of an event: of each site, how many events of it are in its past.
func counted(sites int, l []api.Event, past []bool) []int {
	c := make([]int, sites)
	for k, is := range past {
		if is {
			c[l[k].Who]++
		}
	}
	return c
}

func TestManyPlaysCountWhatIsInThePast(t *testing.T) { // P3.2
	r := rand.New(rand.NewSource(3))
	for sites := 1; sites <= 8; sites++ {
		for _, count := range []int{1, 2, 5, 10, 20, 30, 50, 199, 200} {
			for range 4 {
				l := anyEvents(r, sites, count)
				var want [][]int
				for _, past := range pasts(l) {
					want = append(want, counted(sites, l, past))
				}
				isPlay(t, sites, l, want, api.OK)
			}
		}
	}
}

func TestOneClockIsAheadJustIfItIsInThePast(t *testing.T) { // what comes of P3.1 and P3.2
	r := rand.New(rand.NewSource(4))
	for sites := 1; sites <= 8; sites++ {
		for range 6 {
			l := anyEvents(r, sites, 40)
			past := pasts(l)
			clocks, e := clock.Play(sites, l)
			if len(clocks) != len(l) || e != api.OK {
				t.Fatalf("Play(%d, %v): %v %d", sites, l, clocks, e)
			}
			for i := range l {
				for j := range l {
					want := 2
					switch {
					case i == j:
						want = 0
					case past[j][i]:
						want = -1
					case past[i][j]:
						want = 1
					}
					isOrder(t, clocks[i], clocks[j], want, api.OK)
				}
			}
		}
	}
}

func TestPlayOfUpToMaxEvents(t *testing.T) { // P3.2
	var want [][]int
	for i := range 200 {
		want = append(want, []int{0, i + 1})
	}
	isPlay(t, 2, same(199, act(1)), want[:199], api.OK)
	isPlay(t, 2, same(200, act(1)), want, api.OK)
	isPlay(t, 2, append(many(send(1)), same(199, hear(1, 0))...), want, api.OK)
	for _, n := range []int{201, 202, 256, 400, 65536, 100000} {
		isPlay(t, 2, same(n, act(1)), nil, api.ErrSize)
	}
}

func TestPlayRefusesSitesAheadOfAllElse(t *testing.T) { // P3.2
	for _, sites := range noCounts {
		for _, l := range [][]api.Event{nil, {}, many(act(0)), many(api.Event{}), many(act(-1)), many(hear(0, 0)), same(201, act(0)), same(201, api.Event{})} {
			isPlay(t, sites, l, nil, api.ErrRange)
		}
	}
	for sites := 1; sites <= 8; sites++ {
		isPlay(t, sites, nil, nil, api.OK)
		c := make([]int, sites)
		c[sites-1] = 1
		isPlay(t, sites, many(act(sites-1)), [][]int{c}, api.OK)
	}
}

func TestPlayRefusesTooManyAheadOfEvents(t *testing.T) { // P3.2
	for _, wrong := range many(api.Event{}, act(-1), act(1), hear(0, -1), hear(0, 0), hear(0, 500)) {
		isPlay(t, 1, same(201, wrong), nil, api.ErrSize)
		isPlay(t, 1, append(many(wrong), same(200, act(0))...), nil, api.ErrSize)
		isPlay(t, 1, append(same(200, act(0)), wrong), nil, api.ErrSize)
	}
}

func TestPlayRefusesWhatIsNoKindAheadOfSiteAndOf(t *testing.T) { // P3.2
	for _, kind := range []int{0, -1, -2, -3, 4, 5, 7, 257, 1<<32 + 1, math.MaxInt, math.MinInt, math.MinInt + 1} {
		for _, who := range []int{0, 1, 2, -1, math.MaxInt, math.MinInt} {
			for _, of := range []int{0, 1, 2, -1, math.MaxInt, math.MinInt} {
				e := api.Event{Kind: kind, Who: who, Of: of}
				isPlay(t, 2, many(e), nil, api.ErrKind)
				isPlay(t, 2, many(send(0), e, act(1)), nil, api.ErrKind)
			}
		}
	}
}

func TestPlayRefusesWhatIsNoSite(t *testing.T) { // P3.2
	for sites := 1; sites <= 8; sites++ {
		for _, who := range []int{-1, -2, -8, sites, sites + 1, sites + 8, 256, 1 << 32, math.MaxInt, math.MinInt, math.MinInt + 1} {
			isPlay(t, sites, many(act(who)), nil, api.ErrRange)
			isPlay(t, sites, many(send(who)), nil, api.ErrRange)
			isPlay(t, sites, many(send(0), hear(who, 0)), nil, api.ErrRange)
			isPlay(t, sites, many(send(0), act(0), act(who), act(0)), nil, api.ErrRange)
			// A place that is no Send is named behind.
			isPlay(t, sites, many(act(0), hear(who, 0)), nil, api.ErrRange)
		}
	}
}

func TestPlayRefusesWhatIsNoPlaceAhead(t *testing.T) { // P3.2
	for at := range 6 {
		for _, of := range []int{-1, -2, at, at + 1, 6, 7, 200, math.MaxInt, math.MinInt, math.MinInt + 1} {
			if 0 <= of && of < at {
				continue
			}
			l := same(7, send(0))
			l[at] = hear(1, of)
			isPlay(t, 2, l, nil, api.ErrRange)
			isPlay(t, 2, l[:at+1], nil, api.ErrRange)
		}
		for of := range at {
			l := same(at, send(0))
			want := make([][]int, at)
			for i := range want {
				want[i] = []int{i + 1, 0}
			}
			isPlay(t, 2, append(l, hear(1, of)), append(want, []int{of + 1, 1}), api.OK)
		}
	}
	isPlay(t, 1, many(hear(0, 0)), nil, api.ErrRange)
}

func TestPlayRefusesToHearWhatIsNoSend(t *testing.T) { // P3.2
	isPlay(t, 2, many(act(0), hear(1, 0)), nil, api.ErrForm)
	isPlay(t, 2, many(act(0), send(0), hear(1, 0), act(0)), nil, api.ErrForm)
	isPlay(t, 2, many(send(0), hear(1, 0), hear(0, 1)), nil, api.ErrForm)
	isPlay(t, 1, many(send(0), hear(0, 0), hear(0, 1)), nil, api.ErrForm)
	isPlay(t, 1, append(same(199, act(0)), hear(0, 198)), nil, api.ErrForm)
	isPlay(t, 1, append(same(199, act(0)), hear(0, 0)), nil, api.ErrForm)
}

func TestPlayTellsOfTheFirstEventThatIsWrong(t *testing.T) { // P3.2
	wrong := map[api.Errno][]api.Event{
		api.ErrKind:  many(api.Event{}, api.Event{Kind: 4, Who: -1, Of: -1}),
		api.ErrRange: many(act(-1), send(2), hear(2, 1), hear(0, -1), hear(0, 9)),
		api.ErrForm:  many(hear(0, 1), hear(1, 1)),
	}
	for code, firsts := range wrong {
		for _, first := range firsts {
			isPlay(t, 2, many(send(0), act(1), first), nil, code)
			for _, others := range wrong {
				for _, other := range others {
					isPlay(t, 2, many(send(0), act(1), first, other), nil, code)
					isPlay(t, 2, many(send(0), act(1), first, act(0), hear(1, 0), other), nil, code)
				}
			}
		}
	}
}

func TestListsAndTheRoomBehindThemAreLeft(t *testing.T) { // 'What holds everywhere'
	for _, first := range [][]int{{1, 5}, {1, -1}, {3, 2}, {0, most}} {
		for _, second := range [][]int{{3, 2}, {most + 1, 2}, {1}, {0, 0}} {
			a := append(slices.Clone(first), 7, 8, 9)
			b := append(slices.Clone(second), 7, 8, 9)
			a2, b2 := slices.Clone(a), slices.Clone(b)
			clock.May(a[:2])
			clock.Join(a[:2], b[:len(second)])
			clock.Order(a[:2], b[:len(second)])
			if !slices.Equal(a, a2) || !slices.Equal(b, b2) {
				t.Errorf("%v and %v became %v and %v", a2, b2, a, b)
			}
		}
	}
	for _, l := range [][]api.Event{many(send(0), hear(1, 0), act(0), act(1)), many(act(0), hear(1, 0), act(0), act(1))} {
		kept := slices.Clone(l)
		for n := range len(l) + 1 {
			clock.Play(2, l[:n])
			if !slices.Equal(l, kept) {
				t.Errorf("Play: %v became %v", kept, l)
			}
		}
	}
}

// spoil writes over a list and the room behind it.
func spoil[T any](l []T, v T) {
	l = l[:cap(l)]
	for i := range l {
		l[i] = v
	}
}

func TestJoinIsNewMemory(t *testing.T) { // 'What holds everywhere'
	for _, c := range [][2][]int{{{1, 5}, {3, 2}}, {{1, 2}, {3, 4}}, {{3, 4}, {1, 2}}, {{3, 4}, {3, 4}}} {
		a, b := slices.Clone(c[0]), slices.Clone(c[1])
		first, _ := clock.Join(a, b)
		second, _ := clock.Join(a, b)
		want := slices.Clone(second)
		spoil(first, -1)
		if !slices.Equal(a, c[0]) || !slices.Equal(b, c[1]) || !slices.Equal(second, want) {
			t.Errorf("of %v a change of one answer is seen elsewhere", c)
		}
		spoil(a, -1)
		spoil(b, -1)
		if !slices.Equal(second, want) {
			t.Errorf("Join keeps what it was handed, at %v", c)
		}
		same := slices.Clone(c[0])
		own, _ := clock.Join(same, same)
		spoil(own, -1)
		if !slices.Equal(same, c[0]) {
			t.Errorf("Join of %v with itself is no new memory", c[0])
		}
	}
}

func TestClocksOfAPlayShareNothing(t *testing.T) { // 'What holds everywhere'
	r := rand.New(rand.NewSource(5))
	for sites := 1; sites <= 8; sites++ {
		l := anyEvents(r, sites, 60)
		kept := slices.Clone(l)
		first, _ := clock.Play(sites, l)
		second, _ := clock.Play(sites, l)
		var want [][]int
		for _, c := range second {
			want = append(want, slices.Clone(c))
		}
		for i, c := range first {
			spoil(c, -1-i)
		}
		for i, c := range first {
			if slices.ContainsFunc(c[:cap(c)], func(n int) bool { return n != -1-i }) {
				t.Errorf("of %v a change of another clock is seen in clock %d", kept, i)
			}
		}
		spoil(first, nil)
		if !slices.EqualFunc(second, want, slices.Equal) || !slices.Equal(l, kept) {
			t.Errorf("of %v a change of one answer is seen elsewhere", kept)
		}
		spoil(l, api.Event{})
		if !slices.EqualFunc(second, want, slices.Equal) {
			t.Errorf("Play keeps what it was handed, at %v", kept)
		}
	}
}

// Example: as README.md tells it.
func Example() {
	clocks, _ := clock.Play(2, []api.Event{
		{Kind: api.Send, Who: 0},
		{Kind: api.Act, Who: 1},
		{Kind: api.Hear, Who: 1, Of: 0},
	})
	fmt.Println(clocks)
	fmt.Println(clock.Order(clocks[0], clocks[2]))
	fmt.Println(clock.Order(clocks[0], clocks[1]))
	fmt.Println(clock.Join(clocks[0], clocks[1]))
	fmt.Println(clock.Join(clocks[0], []int{3}))
	// Output:
	// [[1 0] [0 1] [1 2]]
	// -1 0
	// 2 0
	// [1 1] 0
	// [] 1
}
