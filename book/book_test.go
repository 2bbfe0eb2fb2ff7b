package book_test

import (
	"fmt"
	"math"
	"math/rand"
	"slices"
	"testing"

	"splittally/api"
	"splittally/book"
)

// The limits, written out: MaxCount, MaxBranches, MaxTicks and MaxDeeds.
const (
	full  = 1048576
	crowd = 8
	slow  = 8
	deeds = 300
)

// wild are next to 0, what wraps round to a small number, and the ends of all numbers: none is a Count, most, a branch, or how many branches or ticks there are.
var wild = []int{-1, -2, -8, -256, -full, full + 1, full + 2, 2 * full, 1 << 32, 1<<32 + 1, 1<<32 + 4, 1<<32 - 1, -1 << 32, math.MaxInt - 1, math.MaxInt, math.MinInt, math.MinInt + 1}

var noKinds = []int{0, -1, -2, -3, 4, 5, 256, 257, 258, 259, 1 << 32, 1<<32 + 1, 1<<32 + 2, 1<<32 + 3, math.MaxInt, math.MinInt, math.MinInt + 1}

func stocked(count int) api.Call   { return api.Call{Kind: api.Stocked, Count: count} }
func want(who, count int) api.Call { return api.Call{Kind: api.Want, Who: who, Count: count} }
func round() api.Call              { return api.Call{Kind: api.Round} }

// of makes one list of calls and lists of calls.
func of(parts ...any) []api.Call {
	var l []api.Call
	for _, p := range parts {
		switch x := p.(type) {
		case api.Call:
			l = append(l, x)
		case []api.Call:
			l = append(l, x...)
		}
	}
	return l
}

func times(n int, c api.Call) []api.Call { return slices.Repeat([]api.Call{c}, n) }

// done is what a Stocked and a Want come to.
func done() api.Ruling { return api.Ruling{Report: -1} }

func refused(code api.Errno) api.Ruling { return api.Ruling{Code: code, Report: -1} }

// gave is what a Round comes to that begins no epoch.
func gave(grants ...int) api.Ruling { return api.Ruling{Grants: grants, Report: -1} }

// began is what a Round comes to that begins an epoch.
func began(report int, grants ...int) api.Ruling {
	return api.Ruling{Grants: grants, Report: report}
}

func same(a, b api.Ruling) bool {
	return a.Code == b.Code && a.Report == b.Report && slices.Equal(a.Grants, b.Grants)
}

// broker is what a play is given beside its calls.
type broker struct{ branches, most, ticks int }

func (b broker) play(t *testing.T, l []api.Call) []api.Ruling {
	t.Helper()
	got, code := book.Play(b.branches, b.most, b.ticks, l)
	if code != api.OK || len(got) != len(l) {
		t.Fatalf("Play(%v, %v): %d answers, and %d; want %d and 0", b, l, len(got), code, len(l))
	}
	return got
}

// is compares all that is told.
func (b broker) is(t *testing.T, l []api.Call, want ...api.Ruling) {
	t.Helper()
	if got := b.play(t, l); !slices.EqualFunc(got, want, same) {
		t.Errorf("Play(%v, %v):\n%v, want\n%v", b, l, got, want)
	}
}

// isLast compares what is told of the last calls.
func (b broker) isLast(t *testing.T, l []api.Call, want ...api.Ruling) {
	t.Helper()
	got := b.play(t, l)
	if last := got[len(got)-len(want):]; !slices.EqualFunc(last, want, same) {
		t.Errorf("Play(%v, %v): at last %v, want %v", b, l, last, want)
	}
}

// isRefused compares the answer to a whole play.
func (b broker) isRefused(t *testing.T, l []api.Call, want api.Errno) {
	t.Helper()
	if got, code := book.Play(b.branches, b.most, b.ticks, l); len(got) != 0 || code != want {
		t.Errorf("Play(%v) of %d calls: %v %d, want none and %d", b, len(l), got, code, want)
	}
}

// isRefusedWithoutATrace compares a call's answer, and checks that all behind it comes to the same as without it.
func (b broker) isRefusedWithoutATrace(t *testing.T, before []api.Call, c api.Call, want api.Errno) {
	t.Helper()
	behind := of(times(b.ticks, round()), stocked(1), times(b.ticks, round()), wantAll(b.branches, full), times(b.ticks+1, round()), stocked(full), stocked(2), times(b.ticks, round()))
	with, without := b.play(t, of(before, c, behind)), b.play(t, of(before, behind))
	if got := with[len(before)]; !same(got, refused(want)) {
		t.Errorf("%v behind %v: %v comes to %v, want %v", b, before, c, got, refused(want))
	}
	if got := slices.Delete(slices.Clone(with), len(before), len(before)+1); !slices.EqualFunc(got, without, same) {
		t.Errorf("%v behind %v: %v leaves a trace: %v, want %v", b, before, c, got, without)
	}
}

// wantAll is a Want of each branch.
func wantAll(branches, count int) []api.Call {
	var l []api.Call
	for who := range branches {
		l = append(l, want(who, count))
	}
	return l
}

func TestWithoutCallsNothingIsTold(t *testing.T) { // P9.1
	for branches := 1; branches <= crowd; branches++ {
		for ticks := 1; ticks <= slow; ticks++ {
			for _, most := range []int{0, 1, 2, 1000, full - 1, full} {
				broker{branches, most, ticks}.is(t, nil)
				broker{branches, most, ticks}.is(t, []api.Call{})
			}
		}
	}
}

func TestOneCall(t *testing.T) { // P9.1
	b := broker{3, 4, 2}
	b.is(t, of(stocked(5)), done())
	b.is(t, of(want(1, 5)), done())
	b.is(t, of(round()), began(0, 0, 0, 0))
	b.is(t, of(api.Call{}), refused(api.ErrKind))
	b.is(t, of(stocked(0)), refused(api.ErrRange))
	b.is(t, of(want(3, 1)), refused(api.ErrRange))
}

func TestPlaysByTheCountOfCalls(t *testing.T) { // P9.1
	b := broker{2, 3, 4}
	for _, n := range []int{1, 2, 150, deeds - 1, deeds} {
		for i, x := range b.play(t, times(n, stocked(1))) {
			if !same(x, done()) {
				t.Errorf("the Stocked %d of %d comes to %v", i, n, x)
			}
		}
		for i, x := range b.play(t, times(n, api.Call{})) {
			if !same(x, refused(api.ErrKind)) {
				t.Errorf("the call %d of %d comes to %v", i, n, x)
			}
		}
	}
	// 297 rounds give 3 in each of their 75 epochs.
	b.isLast(t, of(stocked(full), want(0, 1000), want(1, 1), times(deeds-3, round())), began(full-74*3-1, 75*3, 1))
	for _, n := range []int{deeds + 1, deeds + 2, 2 * deeds, 65536, 65536 + deeds} {
		for _, c := range []api.Call{stocked(1), want(0, 1), round(), stocked(0), want(-1, 0), {}, {Kind: math.MinInt, Who: math.MaxInt, Count: math.MaxInt}} {
			b.isRefused(t, times(n, c), api.ErrSize)
		}
	}
}

func TestBrokersThatThereAreNot(t *testing.T) { // P9.1
	fine := []api.Call{stocked(9), want(0, 3), round()}
	for _, l := range [][]api.Call{nil, {}, fine, {{}}, times(deeds, round())} {
		for _, n := range append([]int{0, crowd + 1, crowd + 2, 9, 16, 255, 256, 257, full}, wild...) {
			broker{n, 4, 2}.isRefused(t, l, api.ErrRange)
			broker{n, 0, 1}.isRefused(t, l, api.ErrRange)
			broker{n, full, slow}.isRefused(t, l, api.ErrRange)
		}
		for _, n := range wild {
			broker{3, n, 2}.isRefused(t, l, api.ErrRange)
			broker{1, n, 1}.isRefused(t, l, api.ErrRange)
			broker{crowd, n, slow}.isRefused(t, l, api.ErrRange)
		}
		for _, n := range append([]int{0, slow + 1, slow + 2, 16, 255, 256, 257, full}, wild...) {
			broker{3, 4, n}.isRefused(t, l, api.ErrRange)
			broker{1, 0, n}.isRefused(t, l, api.ErrRange)
			broker{crowd, full, n}.isRefused(t, l, api.ErrRange)
		}
		for _, n := range wild {
			broker{n, n, n}.isRefused(t, l, api.ErrRange)
		}
	}
}

func TestTheErrorOfAPlayThatIsNamedFirst(t *testing.T) { // P9.1: ErrRange ahead of ErrSize
	for _, n := range []int{deeds + 1, 65536} {
		for _, c := range []api.Call{round(), {}, stocked(-1)} {
			broker{0, 4, 2}.isRefused(t, times(n, c), api.ErrRange)
			broker{crowd + 1, 4, 2}.isRefused(t, times(n, c), api.ErrRange)
			broker{3, -1, 2}.isRefused(t, times(n, c), api.ErrRange)
			broker{3, full + 1, 2}.isRefused(t, times(n, c), api.ErrRange)
			broker{3, 4, 0}.isRefused(t, times(n, c), api.ErrRange)
			broker{3, 4, slow + 1}.isRefused(t, times(n, c), api.ErrRange)
		}
	}
}

func TestWhatIsToldBehindEachKindOfCall(t *testing.T) { // P9.1
	broker{3, 4, 2}.is(t,
		of(stocked(10), want(0, 9), round(), stocked(3), want(2, 1), round(), stocked(0), want(3, 1), api.Call{Kind: 4}, round(), stocked(full), want(0, 1), round()),
		done(),
		done(),
		began(10, 4, 0, 0),
		done(),
		done(),
		gave(4, 0, 1),
		refused(api.ErrRange),
		refused(api.ErrRange),
		refused(api.ErrKind),
		began(8, 7, 0, 1),
		refused(api.ErrOver),
		done(),
		gave(7, 0, 1),
	)
}

func TestAllBrokers(t *testing.T) { // P9.1: branches, most and ticks, from end to end
	for branches := 1; branches <= crowd; branches++ {
		for ticks := 1; ticks <= slow; ticks++ {
			for _, most := range []int{0, 1, 2, full / 16, full/8 - 1, full / 8, full - 1, full} {
				b, want := broker{branches, most, ticks}, []api.Ruling{}
				for k := range 3*ticks + 1 {
					epoch := k / ticks
					x := gave(shareOut(min(full, (epoch+1)*most*branches), branches)...)
					if k%ticks == 0 {
						x.Report = full - min(full, epoch*most*branches)
					}
					want = append(want, x)
				}
				b.isLast(t, of(stocked(full), wantAll(branches, full), times(3*ticks+1, round())), want...)
			}
		}
	}
}

// shareOut shares a total evenly; what is left goes to the first.
func shareOut(total, branches int) []int {
	var l []int
	for who := range branches {
		l = append(l, (total+branches-1-who)/branches)
	}
	return l
}

func TestMostOfZeroGivesNothing(t *testing.T) { // P9.1
	for _, ticks := range []int{1, 2, slow} {
		b := broker{2, 0, ticks}
		for i, x := range b.play(t, of(stocked(9), want(0, 5), want(1, full), times(3*ticks, round())))[3:] {
			want := gave(0, 0)
			if i%ticks == 0 {
				want.Report = 9
			}
			if !same(x, want) {
				t.Errorf("%v: the Round %d comes to %v, want %v", b, i, x, want)
			}
		}
	}
}

func TestMostOfOne(t *testing.T) { // P9.1
	broker{2, 1, 2}.is(t, of(stocked(9), want(0, 5), want(1, 1), round(), round(), round(), round(), round()),
		done(), done(), done(), began(9, 1, 1), gave(1, 1), began(7, 2, 1), gave(2, 1), began(6, 3, 1))
}

func TestMostOfAll(t *testing.T) { // P9.1
	broker{2, full, 2}.is(t, of(stocked(9), want(0, 5), want(1, full), round(), round(), round(), round()),
		done(), done(), done(), began(9, 5, 4), gave(5, 4), began(0, 5, 4), gave(5, 4))
	broker{1, full, 1}.is(t, of(stocked(full), want(0, full), round(), round()), done(), done(), began(full, full), began(0, full))
	broker{crowd, full, 1}.is(t, of(stocked(full), want(7, full), round(), round()), done(), done(),
		began(full, 0, 0, 0, 0, 0, 0, 0, full/8), began(full/8*7, 0, 0, 0, 0, 0, 0, 0, full/8+full/64*7))
}

func TestStockedIsInTheReserve(t *testing.T) { // P9.1
	b := broker{2, 4, 1}
	for _, n := range []int{1, 2, 1000, full - 1, full} {
		b.is(t, of(stocked(n), round()), done(), began(n, 0, 0))
	}
	b.is(t, of(round(), stocked(5), round(), stocked(1), stocked(2), round(), round()),
		began(0, 0, 0), done(), began(5, 0, 0), done(), done(), began(8, 0, 0), began(8, 0, 0))
	// What is given is not in it any more.
	b.is(t, of(stocked(5), want(1, 3), round(), round(), stocked(2), round()), done(), done(), began(5, 0, 2), began(3, 0, 3), done(), began(4, 0, 3))
}

func TestCountsOfStockedThatThereAreNot(t *testing.T) { // P9.1
	b := broker{3, 4, 2}
	for _, before := range [][]api.Call{nil, of(stocked(7), want(1, 6), round()), of(stocked(full))} {
		for _, n := range append([]int{0}, wild...) {
			b.isRefusedWithoutATrace(t, before, stocked(n), api.ErrRange)
		}
	}
}

func TestAllThatEverWas(t *testing.T) { // P9.1
	b := broker{2, full, 1}
	b.is(t, of(stocked(full), stocked(1), round()), done(), refused(api.ErrOver), began(full, 0, 0))
	b.is(t, of(stocked(1), stocked(full), stocked(full-1), stocked(1), round()), done(), refused(api.ErrOver), done(), refused(api.ErrOver), began(full, 0, 0))
	b.is(t, of(stocked(full/2), stocked(full/4), stocked(full/4+1), stocked(full/4), stocked(1), round()),
		done(), done(), refused(api.ErrOver), done(), refused(api.ErrOver), began(full, 0, 0))
	// One that is refused does not count.
	b.is(t, of(stocked(10), stocked(full), stocked(full), stocked(full-9), stocked(full-10), round()),
		done(), refused(api.ErrOver), refused(api.ErrOver), refused(api.ErrOver), done(), began(full, 0, 0))
	// What was given counts: of some, and of all.
	b.is(t, of(stocked(10), want(0, 3), round(), stocked(full-9), stocked(full-10), stocked(1), round()),
		done(), done(), began(10, 3, 0), refused(api.ErrOver), done(), refused(api.ErrOver), began(full-3, 3, 0))
	b.is(t, of(stocked(full), want(0, full), want(1, full), round(), round(), stocked(1), stocked(full), round()),
		done(), done(), done(), began(full, full/2, full/2), began(0, full/2, full/2), refused(api.ErrOver), refused(api.ErrOver), began(0, full/2, full/2))
	for _, before := range [][]api.Call{of(stocked(full)), of(stocked(full), want(0, full), round()), of(stocked(full-5), want(1, 9), round(), stocked(5))} {
		for _, n := range []int{1, 2, full/2 + 1, full - 1, full} {
			b.isRefusedWithoutATrace(t, before, stocked(n), api.ErrOver)
		}
	}
}

func TestWantIsInAll(t *testing.T) { // P9.1
	b := broker{2, full, 1}
	// As much as before, more, and not so much more.
	b.is(t, of(stocked(100), want(0, 5), round(), want(0, 5), round(), want(0, 8), round(), round()),
		done(), done(), began(100, 5, 0), done(), began(95, 5, 0), done(), began(95, 8, 0), began(92, 8, 0))
	b.is(t, of(stocked(100), want(0, 5), want(0, 5), want(0, 6), round()), done(), done(), done(), done(), began(100, 6, 0))
	// 0 at first, and behind more.
	b.is(t, of(stocked(100), want(0, 0), want(1, 0), round(), want(1, 4), want(1, 0), round()),
		done(), done(), done(), began(100, 0, 0), done(), done(), began(100, 0, 4))
	// MaxCount, and all of it.
	b.is(t, of(stocked(full), want(1, full), want(1, full), round(), round()), done(), done(), done(), began(full, 0, full/2), began(full/2, 0, full/4*3))
	broker{1, full, 1}.is(t, of(stocked(full), want(0, full), round()), done(), done(), began(full, full))
}

func TestABranchNeverWantsLess(t *testing.T) { // P9.1
	b := broker{2, 4, 1}
	// Ahead of what is given, between, and behind all of it.
	b.is(t, of(stocked(100), want(0, 9), want(0, 2), round(), want(0, 1), round(), want(0, 0), round(), want(0, 8), round()),
		done(), done(), done(), began(100, 4, 0), done(), began(96, 8, 0), done(), began(92, 9, 0), done(), began(91, 9, 0))
	// The one does not lower the other's.
	b.is(t, of(stocked(100), want(0, 3), want(1, 2), want(0, 1), want(1, 0), round()), done(), done(), done(), done(), done(), began(100, 3, 2))
}

func TestTheFirstAndTheLastBranch(t *testing.T) { // P9.1
	for branches := 1; branches <= crowd; branches++ {
		b := broker{branches, 5, 1}
		for who := range branches {
			each := make([]int, branches)
			each[who] = 3
			b.is(t, of(stocked(100), want(who, 3), round()), done(), done(), began(100, each...))
		}
		for _, who := range append([]int{branches, branches + 1, crowd, crowd + 1, 256, 257, full}, wild...) {
			if who < 0 || who >= branches {
				b.is(t, of(stocked(100), want(who, 3), round()), done(), refused(api.ErrRange), began(100, make([]int, branches)...))
				b.isRefusedWithoutATrace(t, of(stocked(100), want(0, 7), round()), want(who, 3), api.ErrRange)
				b.isRefusedWithoutATrace(t, of(stocked(100), want(0, 7), round()), want(who, 0), api.ErrRange)
			}
		}
	}
}

func TestCountsOfWantThatThereAreNot(t *testing.T) { // P9.1
	b := broker{3, 4, 2}
	for _, before := range [][]api.Call{nil, of(stocked(50), want(1, 9), round())} {
		for _, n := range wild {
			for who := range 3 {
				b.isRefusedWithoutATrace(t, before, want(who, n), api.ErrRange)
			}
		}
	}
}

func TestKindsThatThereAreNot(t *testing.T) { // P9.1
	b := broker{3, 4, 2}
	for _, before := range [][]api.Call{nil, of(stocked(50), want(1, 9), round())} {
		for _, kind := range noKinds {
			b.isRefusedWithoutATrace(t, before, api.Call{Kind: kind}, api.ErrKind)
			b.isRefusedWithoutATrace(t, before, api.Call{Kind: kind, Who: 1, Count: 20}, api.ErrKind)
			for _, n := range wild {
				b.isRefusedWithoutATrace(t, before, api.Call{Kind: kind, Who: n, Count: n}, api.ErrKind)
			}
		}
	}
}

func TestTheErrorOfACallThatIsNamedFirst(t *testing.T) { // P9.1
	b := broker{3, 4, 2}
	all := of(stocked(full), want(0, 9), round())
	for _, c := range []struct {
		before []api.Call
		c      api.Call
		want   api.Errno
	}{
		// Kind ahead of all else.
		{all, api.Call{Kind: 0, Who: 3, Count: 1}, api.ErrKind},
		{all, api.Call{Kind: 4, Who: 0, Count: full + 1}, api.ErrKind},
		{all, api.Call{Kind: -1, Who: -1, Count: -1}, api.ErrKind},
		// Count ahead of all that ever was.
		{all, stocked(full + 1), api.ErrRange},
		{all, stocked(0), api.ErrRange},
		{all, stocked(-1), api.ErrRange},
		{all, stocked(math.MaxInt), api.ErrRange},
		{all, stocked(math.MinInt), api.ErrRange},
		{of(stocked(1)), stocked(full + 1), api.ErrRange},
		{of(stocked(1)), stocked(full), api.ErrOver},
		// Who and Count at once.
		{all, want(3, -1), api.ErrRange},
		{all, want(-1, full+1), api.ErrRange},
		{all, want(math.MinInt, math.MaxInt), api.ErrRange},
	} {
		b.isRefusedWithoutATrace(t, c.before, c.c, c.want)
	}
}

func TestWhatIsNotAskedForIsNotLookedAt(t *testing.T) { // P9.1: Who of a Stocked, Who and Count of a Round
	b := broker{2, 3, 2}
	for _, n := range append([]int{0, 1, 2, 3, crowd, full}, wild...) {
		b.is(t, of(api.Call{Kind: api.Stocked, Who: n, Count: 9}, want(1, 8), api.Call{Kind: api.Round, Who: n, Count: n}, api.Call{Kind: api.Round, Who: n, Count: n}, api.Call{Kind: api.Round, Count: n}),
			done(), done(), began(9, 0, 3), gave(0, 3), began(6, 0, 6))
	}
}

func TestARoundAheadOfWhatIsStocked(t *testing.T) { // P9.1
	// The first epoch has quotas of nothing, however much comes within it.
	broker{2, 4, 3}.is(t, of(want(0, 9), round(), stocked(20), round(), round(), round(), round()),
		done(), began(0, 0, 0), done(), gave(0, 0), gave(0, 0), began(20, 4, 0), gave(4, 0))
	broker{2, 4, 1}.is(t, of(round(), want(0, 9), stocked(20), round()), began(0, 0, 0), done(), done(), began(20, 4, 0))
}

func TestARoundAheadOfWhatIsWanted(t *testing.T) { // P9.1
	// The first epoch has its quotas, and they are given when they are wanted.
	broker{2, 4, 3}.is(t, of(stocked(20), round(), want(1, 9), round(), want(0, 1), round(), round()),
		done(), began(20, 0, 0), done(), gave(0, 4), done(), gave(1, 4), began(15, 1, 8))
}

func TestWhichRoundsBeginAnEpoch(t *testing.T) { // P9.1
	for ticks := 1; ticks <= slow; ticks++ {
		b := broker{2, 4, ticks}
		for _, between := range [][]api.Call{nil, {want(0, 0)}, {want(0, 0), {}, stocked(0)}, {want(2, 1), stocked(full + 1)}} {
			l := of(stocked(7))
			for len(l)+len(between) < deeds {
				l = of(l, between, round())
			}
			rounds := 0
			for i, x := range b.play(t, l) {
				if l[i].Kind != api.Round {
					continue
				}
				want := gave(0, 0)
				if rounds%ticks == 0 {
					want = began(7, 0, 0)
				}
				if !same(x, want) {
					t.Errorf("%v, with %v between: the Round %d comes to %v, want %v", b, between, rounds, x, want)
				}
				rounds++
			}
			if len(between) == 0 && rounds != deeds-1 {
				t.Errorf("%d rounds", rounds)
			}
		}
	}
}

func TestAnEpochManyEpochsLater(t *testing.T) { // P9.1
	for _, ticks := range []int{1, 3, slow} {
		b, epochs := broker{2, 4, ticks}, (deeds-6)/ticks
		b.isLast(t, of(stocked(1000), times(epochs*ticks, round()), stocked(10), want(1, 6), round(), want(0, 9)),
			done(), done(), began(1010, 0, 4), done())
		if ticks > 1 {
			b.isLast(t, of(stocked(1000), times(epochs*ticks, round()), stocked(10), want(1, 6), round(), want(0, 9), round()), gave(4, 4))
		}
		// An epoch in which nothing is wanted leaves no more for later ones.
		b.isLast(t, of(stocked(1000), times(epochs*ticks, round()), want(0, 1000), round()), began(1000, 4, 0))
	}
}

func TestStockedWithinAnEpochLeavesItsQuotas(t *testing.T) { // P9.1
	broker{2, 10, 2}.is(t, of(stocked(4), want(0, 20), want(1, 20), round(), stocked(30), round(), round(), round(), round()),
		done(), done(), done(), began(4, 2, 2), done(), gave(2, 2), began(30, 12, 12), gave(12, 12), began(10, 17, 17))
	// Also of a branch that was given nothing yet.
	broker{2, 10, 3}.is(t, of(stocked(5), round(), stocked(30), want(1, 20), round(), want(0, 20), round(), round()),
		done(), began(5, 0, 0), done(), done(), gave(0, 2), done(), gave(3, 2), began(30, 13, 12))
}

func TestWantWithinAnEpochLeavesItsQuotas(t *testing.T) { // P9.1
	// What 0 wants takes nothing from 1, and what it does not want is not for 1.
	broker{2, 10, 3}.is(t, of(stocked(8), want(1, 20), round(), want(0, 20), round(), want(0, 30), want(1, 40), round(), round()),
		done(), done(), began(8, 0, 4), done(), gave(4, 4), done(), done(), gave(4, 4), began(0, 4, 4))
	broker{2, 10, 2}.is(t, of(stocked(8), want(1, 20), round(), round(), round(), round(), round()),
		done(), done(), began(8, 0, 4), gave(0, 4), began(4, 0, 6), gave(0, 6), began(2, 0, 7))
}

func TestAQuotaThatIsUsedUp(t *testing.T) { // P9.1
	// In one round.
	broker{1, 5, 3}.is(t, of(stocked(50), want(0, 20), round(), round(), round(), round()), done(), done(), began(50, 5), gave(5), gave(5), began(45, 10))
	// Over several, to the last one of it, and then no more.
	broker{1, 5, 5}.is(t, of(stocked(50), want(0, 2), round(), want(0, 3), round(), want(0, 9), round(), want(0, 12), round(), round(), round()),
		done(), done(), began(50, 2), done(), gave(3), done(), gave(5), done(), gave(5), gave(5), began(45, 10))
	// Wanted is as much as the quota, one less and one more.
	broker{3, 5, 2}.is(t, of(stocked(50), want(0, 5), want(1, 4), want(2, 6), round(), round(), round()), done(), done(), done(), done(), began(50, 5, 4, 5), gave(5, 4, 5), began(36, 5, 4, 6))
}

func TestWhatIsLeftOfAQuotaDoesNotGoOn(t *testing.T) { // P9.1
	broker{1, 5, 2}.is(t, of(stocked(50), want(0, 1), round(), round(), want(0, 40), round(), round(), round()),
		done(), done(), began(50, 1), gave(1), done(), began(49, 6), gave(6), began(44, 11))
	// Where none was used at all.
	broker{2, 5, 1}.is(t, of(stocked(50), round(), round(), want(1, 40), round(), round()),
		done(), began(50, 0, 0), began(50, 0, 0), done(), began(50, 0, 5), began(45, 0, 10))
}

func TestAReserveThatIsNotSharedEvenly(t *testing.T) { // P9.1
	for branches := 1; branches <= crowd; branches++ {
		for _, most := range []int{1, 2, 3, 7, 40, full} {
			for total := 1; total <= 60; total++ {
				want := shareOut(min(total, most*branches), branches)
				broker{branches, most, 2}.isLast(t, of(stocked(total), wantAll(branches, full), round(), round()), began(total, want...), gave(want...))
			}
		}
	}
}

func TestAReserveOfLessThanThereAreBranches(t *testing.T) { // P9.1
	b := broker{4, 3, 2}
	b.is(t, of(stocked(2), want(1, 9), want(3, 9), round(), round(), round(), round(), round()), done(), done(), done(),
		began(2, 0, 1, 0, 0), gave(0, 1, 0, 0), began(1, 0, 1, 0, 0), gave(0, 1, 0, 0), began(1, 0, 1, 0, 0))
	// The first one has the quota, though it wants nothing; once it wants, it has it.
	b.is(t, of(stocked(1), want(3, 9), round(), want(0, 1), round(), round()), done(), done(), began(1, 0, 0, 0, 0), done(), gave(1, 0, 0, 0), began(0, 1, 0, 0, 0))
}

func TestOneThatWantsNothing(t *testing.T) { // P9.1
	// Its quota is kept for it: the others share no more than they would beside one that wants all.
	broker{3, 9, 2}.is(t, of(stocked(12), want(0, 50), want(2, 50), round(), round(), round()),
		done(), done(), done(), began(12, 4, 0, 4), gave(4, 0, 4), began(4, 6, 0, 5))
	broker{3, 9, 2}.is(t, of(stocked(12), want(0, 50), want(1, 50), want(2, 50), round(), round(), round()),
		done(), done(), done(), done(), began(12, 4, 4, 4), gave(4, 4, 4), began(0, 4, 4, 4))
}

func TestNothingIsGivenTwice(t *testing.T) { // P9.1: 'What comes of it'
	r := rand.New(rand.NewSource(3))
	for range 300 {
		b := anyBroker(r)
		l := anyPlay(r, b, r.Intn(deeds-1))
		ever, wants, before := 0, make([]int, b.branches), make([]int, b.branches)
		for i, x := range b.play(t, l) {
			switch {
			case x.Code != api.OK:
			case l[i].Kind == api.Stocked:
				ever += l[i].Count
			case l[i].Kind == api.Want:
				wants[l[i].Who] = max(wants[l[i].Who], l[i].Count)
			default:
				if x.Report >= 0 && x.Report+sum(before) != ever {
					t.Fatalf("Play(%v, %v): the Round %d reports %d and gave %v of %d", b, l, i, x.Report, before, ever)
				}
				for who, n := range x.Grants {
					if n < before[who] || n > wants[who] {
						t.Fatalf("Play(%v, %v): the Round %d gives %v behind %v, of %v", b, l, i, x.Grants, before, wants)
					}
				}
				if sum(x.Grants) > ever {
					t.Fatalf("Play(%v, %v): the Round %d gives %v of %d", b, l, i, x.Grants, ever)
				}
				before = x.Grants
			}
		}
	}
}

func sum(l []int) int {
	s := 0
	for _, n := range l {
		s += n
	}
	return s
}

func TestWhatOneIsGivenHangsOnWhatItWantsAlone(t *testing.T) { // P9.1: 'What comes of it'
	r := rand.New(rand.NewSource(4))
	for range 300 {
		b := anyBroker(r)
		before := anyPlay(r, b, r.Intn(60))
		rounds := 0
		for _, c := range before {
			if c.Kind == api.Round {
				rounds++
			}
		}
		before = of(before, times((b.ticks-rounds%b.ticks)%b.ticks, round()))
		// From here on one epoch, with the same wants of one branch and others of the rest.
		one, who := of(before), r.Intn(b.branches)
		two := of(before)
		for range b.ticks {
			c := want(who, r.Intn(3*b.most+2))
			one = of(one, c, want(r.Intn(b.branches), 0), round())
			two = of(two, c, want((who+1)%b.branches, 0), round())
			if b.branches > 1 {
				two[len(two)-2].Count = r.Intn(full)
			}
		}
		x, y := b.play(t, one), b.play(t, two)
		for i := len(before); i < len(one); i++ {
			if one[i].Kind == api.Round && (x[i].Grants[who] != y[i].Grants[who] || x[i].Report != y[i].Report) {
				t.Fatalf("%v: the branch %d is told %v and %v in the Round %d of %v and of %v", b, who, x[i], y[i], i, one, two)
			}
		}
	}
}

// reckoner keeps what was stocked and wanted, and how each epoch began, and reckons from that what each was given.
type reckoner struct {
	broker
	stocked int
	wants   []int
	rounds  int
	began   []int // what each was given in all when the epoch began
	quotas  []int
}

// given reckons what each was given in all, if it asked now.
func (k *reckoner) given() []int {
	l := make([]int, k.branches)
	for who := range l {
		l[who] = min(k.wants[who], k.began[who]+k.quotas[who])
	}
	return l
}

func (k *reckoner) refuse(c api.Call) api.Errno {
	outside := c.Count < 0 || c.Count > full
	switch {
	case c.Kind < 1 || c.Kind > 3:
		return api.ErrKind
	case c.Kind == api.Stocked && (outside || c.Count == 0):
		return api.ErrRange
	case c.Kind == api.Stocked && k.stocked+c.Count > full:
		return api.ErrOver
	case c.Kind == api.Want && (outside || c.Who < 0 || c.Who >= k.branches):
		return api.ErrRange
	}
	return api.OK
}

// do takes what was given at the end of an epoch from the round that was last in it.
func (k *reckoner) do(c api.Call, last []int) api.Ruling {
	if code := k.refuse(c); code != api.OK {
		return refused(code)
	}
	switch c.Kind {
	case api.Stocked:
		k.stocked += c.Count
		return done()
	case api.Want:
		k.wants[c.Who] = max(k.wants[c.Who], c.Count)
		return done()
	}
	k.rounds++
	if k.ticks > 1 && k.rounds%k.ticks != 1 {
		return gave(k.given()...)
	}
	reserve := k.stocked - sum(last)
	k.began, k.quotas = last, shareOut(min(reserve, k.most*k.branches), k.branches)
	return began(reserve, k.given()...)
}

// isReckoned compares a play with what is reckoned.
func isReckoned(t *testing.T, b broker, l []api.Call) []api.Ruling {
	t.Helper()
	k := reckoner{broker: b, wants: make([]int, b.branches)}
	last := make([]int, b.branches)
	got := b.play(t, l)
	for i, c := range l {
		want := k.do(c, last)
		if !same(got[i], want) {
			t.Fatalf("Play(%v, %v): the call %d comes to %v, want %v", b, l[:i+1], i, got[i], want)
		}
		if len(want.Grants) > 0 {
			last = want.Grants
		}
	}
	return got
}

func TestAllShortPlays(t *testing.T) { // P9.1
	each := of(stocked(3), stocked(full-3), want(0, 1), want(0, 4), want(1, 3), round())
	for _, b := range []broker{{2, 2, 2}, {3, 1, 1}, {2, full, 3}} {
		all := [][]api.Call{nil}
		for range 6 {
			var longer [][]api.Call
			for _, l := range all {
				for _, c := range each {
					longer = append(longer, of(l, c))
				}
			}
			for _, l := range longer {
				isReckoned(t, b, l)
			}
			all = longer
		}
	}
}

// anyBroker takes numbers by chance, the same at each run.
func anyBroker(r *rand.Rand) broker {
	mosts := []int{0, 1, 2, 3 + r.Intn(20), 1 + r.Intn(full), full}
	return broker{1 + r.Intn(crowd), mosts[r.Intn(len(mosts))], 1 + r.Intn(slow)}
}

// anyPlay takes calls by chance, the same at each run; some are out of their range.
func anyPlay(r *rand.Rand, b broker, n int) []api.Call {
	var l []api.Call
	sizes := []int{3, 20, 200, full}
	size := sizes[r.Intn(len(sizes))]
	for range n {
		var c api.Call
		switch r.Intn(8) {
		case 0, 1:
			c = stocked(1 + r.Intn(size))
		case 2, 3, 4:
			c = want(r.Intn(b.branches), r.Intn(size+1))
		default:
			c = round()
		}
		switch r.Intn(50) {
		case 0:
			c.Kind = noKinds[r.Intn(len(noKinds))]
		case 1:
			c.Who = wild[r.Intn(len(wild))]
		case 2:
			c.Count = wild[r.Intn(len(wild))]
		case 3:
			c.Count = 0
		case 4:
			c.Who = b.branches
		case 5:
			c.Count = full - r.Intn(3)
		}
		l = append(l, c)
	}
	return l
}

func TestManyPlays(t *testing.T) { // P9.1
	r := rand.New(rand.NewSource(9))
	seen := map[[2]int]int{}
	for range 1000 {
		b := anyBroker(r)
		l := anyPlay(r, b, r.Intn(deeds+1))
		for i, x := range isReckoned(t, b, l) {
			seen[[2]int{l[i].Kind, int(x.Code)}]++
		}
	}
	for kind, codes := range map[int][]api.Errno{
		api.Stocked: {api.OK, api.ErrRange, api.ErrOver},
		api.Want:    {api.OK, api.ErrRange},
		api.Round:   {api.OK},
		0:           {api.ErrKind},
	} {
		for _, code := range codes {
			if seen[[2]int{kind, int(code)}] < 20 {
				t.Errorf("the kind %d came to %d in %d calls: they are badly chosen", kind, code, seen[[2]int{kind, int(code)}])
			}
		}
	}
}

func TestNothingIsKeptFromCallToCall(t *testing.T) { // 'What holds everywhere'
	b := broker{2, 4, 2}
	for range 3 {
		b.is(t, of(stocked(full), want(0, 9), round()), done(), done(), began(full, 4, 0))
		b.isRefused(t, times(deeds+1, stocked(1)), api.ErrSize)
		broker{0, 4, 2}.isRefused(t, of(stocked(1)), api.ErrRange)
		b.is(t, of(round(), stocked(full)), began(0, 0, 0), done())
	}
}

// somePlay is one that may be, or may not.
type somePlay struct {
	broker
	calls []api.Call
}

func somePlays() []somePlay {
	r := rand.New(rand.NewSource(10))
	b := broker{3, 4, 2}
	var plays []somePlay
	for _, l := range [][]api.Call{nil, {}, {stocked(5)}, {want(1, 5)}, {round()}, {{}}, times(deeds, round()), times(deeds+1, round())} {
		plays = append(plays, somePlay{b, l}, somePlay{broker{0, 4, 2}, l}, somePlay{broker{crowd, full, 1}, l})
	}
	for range 200 {
		b := anyBroker(r)
		plays = append(plays, somePlay{b, anyPlay(r, b, r.Intn(40))})
	}
	return plays
}

const spare = 8

// roomy lays calls where there is room behind them that is not empty; all is the list with that room.
func roomy(l []api.Call) (list, all []api.Call) {
	all = of(l, times(spare, api.Call{Kind: 71, Who: 72, Count: 73}))
	return all[:len(l)], all
}

func TestListsAndTheRoomBehindThemAreLeft(t *testing.T) { // 'What holds everywhere'
	for _, p := range somePlays() {
		list, all := roomy(p.calls)
		before := slices.Clone(all)
		book.Play(p.branches, p.most, p.ticks, list)
		if !slices.Equal(all, before) {
			t.Errorf("Play(%v) made %v of %v", p.broker, all, before)
		}
	}
}

// spoil writes over a list and the room behind it.
func spoil[T any](l []T, with T) {
	l = l[:cap(l)]
	for i := range l {
		l[i] = with
	}
}

func TestWhatIsHandedInIsNotKept(t *testing.T) { // 'What holds everywhere'
	for _, p := range somePlays() {
		list, all := roomy(p.calls)
		got, _ := book.Play(p.branches, p.most, p.ticks, list)
		want := fmt.Sprint(got)
		spoil(all, api.Call{Kind: -9})
		if fmt.Sprint(got) != want {
			t.Errorf("Play(%v, %v) keeps what it was handed", p.broker, p.calls)
		}
	}
}

func TestAnswersAreNewMemory(t *testing.T) { // 'What holds everywhere'
	for _, p := range somePlays() {
		list, all := roomy(p.calls)
		before := slices.Clone(all)
		one, _ := book.Play(p.branches, p.most, p.ticks, list)
		two, _ := book.Play(p.branches, p.most, p.ticks, list)
		want := fmt.Sprint(two)
		for i := range one {
			spoil(one[i].Grants, 99)
		}
		spoil(one, api.Ruling{Code: -9, Report: -9, Grants: []int{9}})
		if !slices.Equal(all, before) || fmt.Sprint(two) != want {
			t.Errorf("Play(%v, %v): a change of one answer is seen elsewhere", p.broker, p.calls)
		}
	}
}

func TestNoTwoListsOfOneAnswerShareAny(t *testing.T) { // 'What holds everywhere'
	for branches := 1; branches <= crowd; branches++ {
		b := broker{branches, 2, 3}
		got := b.play(t, of(stocked(100), round(), want(0, 9), times(8, round()), api.Call{}, want(branches-1, 9), times(8, round())))
		for i := range got {
			want := make([]string, len(got))
			for k := range got {
				want[k] = fmt.Sprint(got[k])
			}
			spoil(got[i].Grants, 100+i)
			for k := range got {
				if k != i && fmt.Sprint(got[k]) != want[k] {
					t.Fatalf("%v: the calls %d and %d share Grants", b, i, k)
				}
			}
		}
	}
}

func TestABrokerTakesMoreCallsThanAPlay(t *testing.T) { // a world's books, which layer 12 asks for
	b, code := book.NewBroker(2, 3, 1)
	if code != api.OK || b.Reserve() != 0 {
		t.Fatalf("a broker: %d in its reserve, and %d", b.Reserve(), code)
	}
	b.Take(stocked(9 * deeds))
	for i := range 2 * deeds {
		if got := b.Take(want(1, 3*i+3)); !same(got, done()) {
			t.Fatalf("the want %d comes to %v", i, got)
		}
		if got := b.Take(round()); !same(got, began(9*deeds-3*i, 0, 3*i+3)) || b.Reserve() != 9*deeds-3*i-3 {
			t.Fatalf("the round %d comes to %v, with %d in the reserve", i, got, b.Reserve())
		}
	}
	for _, x := range []broker{{0, 3, 1}, {9, 3, 1}, {2, -1, 1}, {2, full + 1, 1}, {2, 3, 0}, {2, 3, 9}} {
		if b, code := book.NewBroker(x.branches, x.most, x.ticks); code != api.ErrRange || b.Reserve() != 0 {
			t.Errorf("NewBroker(%v): %d", x, code)
		}
	}
}

// Example: as README.md tells it.
func Example() {
	told, _ := book.Play(2, 4, 2, []api.Call{
		{Kind: api.Stocked, Count: 10},
		{Kind: api.Want, Who: 0, Count: 6},
		{Kind: api.Round},
		{Kind: api.Want, Who: 1, Count: 1},
		{Kind: api.Round},
		{Kind: api.Round},
		{Kind: api.Want, Who: 2, Count: 1},
	})
	for _, x := range told {
		fmt.Println(x)
	}
	// Output:
	// {0 [] -1}
	// {0 [] -1}
	// {0 [4 0] 10}
	// {0 [] -1}
	// {0 [4 1] -1}
	// {0 [6 1] 5}
	// {2 [] -1}
}
