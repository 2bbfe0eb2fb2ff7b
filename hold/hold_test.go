package hold_test

import (
	"fmt"
	"math"
	"math/rand"
	"slices"
	"testing"

	"splittally/api"
	"splittally/hold"
)

// The limits, written out: MaxCount, MaxLife, MaxHolds and MaxDeeds.
const (
	most    = 1048576
	longest = 20
	room    = 4
	deeds   = 300
)

// noCounts are no Counts and, as they are greater than MaxLife or below 1, no Lives: next to the ends, what wraps round to one, the ends of all numbers.
var noCounts = []int{0, -1, -2, -most, most + 1, most + 2, 2 * most, 1 << 32, 1<<32 + 1, -1 << 32, 1<<32 - 1, math.MaxInt - 1, math.MaxInt, math.MinInt, math.MinInt + 1}

var noLives = append([]int{longest + 1, longest + 2, 255, 256, 257, most}, noCounts...)

var noKinds = []int{0, -1, -2, -7, 8, 9, 15, 256, 257, 1 << 32, 1<<32 + 1, 1<<32 + 7, math.MaxInt, math.MinInt, math.MinInt + 1}

func gain(count int) api.Order   { return api.Order{Kind: api.Gain, Count: count} }
func sell(count int) api.Order   { return api.Order{Kind: api.Sell, Count: count} }
func refund(count int) api.Order { return api.Order{Kind: api.Refund, Count: count} }
func confirm(id int) api.Order   { return api.Order{Kind: api.Confirm, Id: id} }
func cancel(id int) api.Order    { return api.Order{Kind: api.Cancel, Id: id} }
func tick() api.Order            { return api.Order{Kind: api.Tick} }

func holds(count, life int) api.Order {
	return api.Order{Kind: api.Hold, Count: count, Life: life}
}

// of makes one list of orders and lists of orders.
func of(parts ...any) []api.Order {
	var l []api.Order
	for _, p := range parts {
		switch x := p.(type) {
		case api.Order:
			l = append(l, x)
		case []api.Order:
			l = append(l, x...)
		}
	}
	return l
}

func times(n int, o api.Order) []api.Order { return slices.Repeat([]api.Order{o}, n) }

// done is what an order comes to that is not refused and makes no hold.
func done(free, held, used int) api.Stock {
	return api.Stock{Free: free, Held: held, Used: used}
}

func made(id, free, held, used int) api.Stock {
	return api.Stock{Id: id, Free: free, Held: held, Used: used}
}

func refused(code api.Errno, free, held, used int) api.Stock {
	return api.Stock{Code: code, Free: free, Held: held, Used: used}
}

func play(t *testing.T, l []api.Order) []api.Stock {
	t.Helper()
	got, code := hold.Play(l)
	if code != api.OK || len(got) != len(l) {
		t.Fatalf("Play(%v): %d answers, and %d; want %d and 0", l, len(got), code, len(l))
	}
	return got
}

// isPlay compares all that is told.
func isPlay(t *testing.T, l []api.Order, want ...api.Stock) {
	t.Helper()
	if got := play(t, l); !slices.Equal(got, want) {
		t.Errorf("Play(%v):\n%v, want\n%v", l, got, want)
	}
}

// isLast compares what is told of the last orders.
func isLast(t *testing.T, l []api.Order, want ...api.Stock) {
	t.Helper()
	got := play(t, l)
	if last := got[len(got)-len(want):]; !slices.Equal(last, want) {
		t.Errorf("Play(%v): at last %v, want %v", l, last, want)
	}
}

// stock is what there is behind orders.
func stock(t *testing.T, l []api.Order) api.Stock {
	t.Helper()
	if len(l) == 0 {
		return api.Stock{}
	}
	return play(t, l)[len(l)-1]
}

// isRefusedWithoutATrace compares an order's answer, and checks that all behind it comes to the same as without it.
func isRefusedWithoutATrace(t *testing.T, before []api.Order, o api.Order, want api.Errno) {
	t.Helper()
	behind := of(tick(), holds(1, 2), confirm(1), sell(1), cancel(2), refund(1), gain(1), tick(), cancel(3), confirm(4), tick(), sell(1), tick(), holds(1, 1))
	with, without := play(t, of(before, o, behind)), play(t, of(before, behind))
	stood := stock(t, before)
	if got := with[len(before)]; got != refused(want, stood.Free, stood.Held, stood.Used) {
		t.Errorf("behind %v: %v comes to %v, want %d, and what was told before: %v", before, o, got, want, stood)
	}
	if got := slices.Delete(slices.Clone(with), len(before), len(before)+1); !slices.Equal(got, without) {
		t.Errorf("behind %v: %v leaves a trace: %v, want %v", before, o, got, without)
	}
}

func TestWithoutOrdersNothingIsTold(t *testing.T) { // P7.1
	isPlay(t, nil)
	isPlay(t, []api.Order{})
}

func TestABranchHasNothingAtFirst(t *testing.T) { // P7.1
	isPlay(t, of(tick()), done(0, 0, 0))
	isPlay(t, of(gain(1)), done(1, 0, 0))
	isPlay(t, of(sell(1)), refused(api.ErrLess, 0, 0, 0))
	isPlay(t, of(holds(1, 1)), refused(api.ErrLess, 0, 0, 0))
	isPlay(t, of(refund(1)), refused(api.ErrLess, 0, 0, 0))
	isPlay(t, of(confirm(1)), refused(api.ErrNone, 0, 0, 0))
	isPlay(t, of(cancel(1)), refused(api.ErrNone, 0, 0, 0))
	isPlay(t, of(api.Order{}), refused(api.ErrKind, 0, 0, 0))
}

func TestPlaysByTheCountOfOrders(t *testing.T) { // P7.1
	for _, n := range []int{1, 2, 150, deeds - 1, deeds} {
		got := play(t, times(n, gain(2)))
		for i, s := range got {
			if s != done(2*i+2, 0, 0) {
				t.Errorf("the Gain %d of %d comes to %v", i, n, s)
			}
		}
	}
	isLast(t, of(times(deeds-1, gain(1)), sell(1)), done(deeds-2, 0, 1))
	isLast(t, times(deeds, api.Order{}), refused(api.ErrKind, 0, 0, 0))
	for _, n := range []int{deeds + 1, deeds + 2, 2 * deeds, 65536, 65536 + deeds} {
		for _, o := range []api.Order{gain(1), tick(), sell(1), gain(0), holds(1, 21), confirm(1), {}, {Kind: math.MinInt, Count: math.MaxInt}} {
			if got, code := hold.Play(times(n, o)); len(got) != 0 || code != api.ErrSize {
				t.Errorf("%d times %v: %v %d, want none and %d", n, o, got, code, api.ErrSize)
			}
		}
	}
}

func TestWhatIsToldBehindEachKindOfOrder(t *testing.T) { // P7.1
	isPlay(t,
		of(gain(20), sell(5), holds(3, 4), holds(2, 1), confirm(1), holds(4, 9), cancel(3), refund(6), tick(), gain(1), holds(1, 2)),
		done(20, 0, 0),
		done(15, 0, 5),
		made(1, 12, 3, 5),
		made(2, 10, 5, 5),
		done(10, 2, 8),
		made(3, 6, 6, 8),
		done(10, 2, 8),
		done(16, 2, 2),
		done(18, 0, 2),
		done(19, 0, 2),
		made(4, 18, 1, 2),
	)
}

func TestWhatIsNotAskedForIsNotLookedAt(t *testing.T) { // P7.1
	before := of(gain(10), sell(2), holds(3, 2))
	wrong := append(slices.Clone(noLives), 1, 2)
	for _, n := range wrong {
		for _, m := range wrong {
			isLast(t, of(before, api.Order{Kind: api.Gain, Count: 4, Life: n, Id: m}), done(9, 3, 2))
			isLast(t, of(before, api.Order{Kind: api.Sell, Count: 4, Life: n, Id: m}), done(1, 3, 6))
			isLast(t, of(before, api.Order{Kind: api.Refund, Count: 2, Life: n, Id: m}), done(7, 3, 0))
			isLast(t, of(before, api.Order{Kind: api.Confirm, Count: n, Life: m, Id: 1}), done(5, 0, 5))
			isLast(t, of(before, api.Order{Kind: api.Cancel, Count: n, Life: m, Id: 1}), done(8, 0, 2))
			isLast(t, of(before, api.Order{Kind: api.Confirm, Count: n, Life: m, Id: 2}), refused(api.ErrNone, 5, 3, 2))
			isLast(t, of(before, api.Order{Kind: api.Tick, Count: n, Life: m, Id: n}), done(5, 3, 2))
		}
		isLast(t, of(before, api.Order{Kind: api.Hold, Count: 4, Life: 1, Id: n}), made(2, 1, 7, 2))
	}
}

func TestCountsAtTheirEnds(t *testing.T) { // P7.1
	isPlay(t, of(gain(1), sell(1), refund(1), holds(1, 1)), done(1, 0, 0), done(0, 0, 1), done(1, 0, 0), made(1, 0, 1, 0))
	isPlay(t,
		of(gain(most), sell(most), refund(most), holds(most, 1), cancel(1), holds(most, 20), confirm(2), refund(most), holds(most, 1), tick()),
		done(most, 0, 0), done(0, 0, most), done(most, 0, 0), made(1, 0, most, 0), done(most, 0, 0), made(2, 0, most, 0), done(0, 0, most), done(most, 0, 0), made(3, 0, most, 0), done(most, 0, 0))
}

func TestCountsOutOfTheirRange(t *testing.T) { // P7.1
	for _, count := range noCounts {
		for _, before := range [][]api.Order{
			nil,
			of(gain(10), sell(3), holds(2, 3)),
			of(gain(most)),
			of(gain(most), sell(most)),
			of(gain(10), times(room, holds(2, 3))),
		} {
			isRefusedWithoutATrace(t, before, gain(count), api.ErrRange)
			isRefusedWithoutATrace(t, before, sell(count), api.ErrRange)
			isRefusedWithoutATrace(t, before, refund(count), api.ErrRange)
			isRefusedWithoutATrace(t, before, holds(count, 2), api.ErrRange)
			isRefusedWithoutATrace(t, before, holds(count, 0), api.ErrRange)
			isRefusedWithoutATrace(t, before, holds(count, longest+1), api.ErrRange)
		}
	}
}

func TestLivesOutOfTheirRange(t *testing.T) { // P7.1
	for _, life := range noLives {
		isRefusedWithoutATrace(t, of(gain(10), sell(3), holds(2, 3)), holds(2, life), api.ErrRange)
		isRefusedWithoutATrace(t, nil, holds(1, life), api.ErrRange)
	}
}

func TestKindsThatThereAreNot(t *testing.T) { // P7.1
	for _, kind := range noKinds {
		for _, before := range [][]api.Order{nil, of(gain(10), sell(3), holds(2, 3)), of(gain(most)), of(gain(10), times(room, holds(2, 3)))} {
			isRefusedWithoutATrace(t, before, api.Order{Kind: kind}, api.ErrKind)
			isRefusedWithoutATrace(t, before, api.Order{Kind: kind, Count: 1, Life: 1, Id: 1}, api.ErrKind)
			for _, wrong := range noCounts {
				isRefusedWithoutATrace(t, before, api.Order{Kind: kind, Count: wrong, Life: wrong, Id: wrong}, api.ErrKind)
			}
		}
	}
}

func TestGain(t *testing.T) { // P7.1
	isPlay(t, of(gain(3), gain(4), gain(1)), done(3, 0, 0), done(7, 0, 0), done(8, 0, 0))
	isLast(t, of(gain(10), sell(2), holds(3, 9), gain(4)), done(9, 3, 2))
}

func TestGainOfJustWhatThereIsRoomForAndOneMore(t *testing.T) { // P7.1
	for _, before := range [][]api.Order{
		nil,
		of(gain(100)),
		of(gain(100), sell(100)),
		of(gain(100), sell(40)),
		of(gain(100), holds(100, 20)),
		of(gain(100), holds(40, 20)),
		of(gain(100), sell(30), holds(40, 20), holds(10, 20)),
		of(gain(100), sell(30), holds(70, 20)),
		of(gain(100), holds(40, 20), confirm(1)),
		of(gain(100), holds(40, 20), cancel(1)),
		of(gain(100), holds(40, 1), tick()),
		of(gain(100), sell(30), refund(30)),
	} {
		s := stock(t, before)
		left := most - s.Free - s.Held - s.Used
		isLast(t, of(before, gain(left)), done(s.Free+left, s.Held, s.Used))
		isLast(t, of(before, gain(left-1), gain(2), gain(1), gain(1)), refused(api.ErrOver, s.Free+left-1, s.Held, s.Used), done(s.Free+left, s.Held, s.Used), refused(api.ErrOver, s.Free+left, s.Held, s.Used))
		if left < most {
			isRefusedWithoutATrace(t, before, gain(left+1), api.ErrOver)
			isRefusedWithoutATrace(t, before, gain(most), api.ErrOver)
		}
	}
	// What was sold counts as well as what is free: with all of it used there is no room.
	isRefusedWithoutATrace(t, of(gain(most), sell(most)), gain(1), api.ErrOver)
	isRefusedWithoutATrace(t, of(gain(most), holds(most, 20)), gain(1), api.ErrOver)
	isRefusedWithoutATrace(t, of(gain(most), holds(1, 20), sell(most-2)), gain(1), api.ErrOver)
}

func TestSellOfJustWhatIsFreeAndOneMore(t *testing.T) { // P7.1
	for _, before := range [][]api.Order{
		of(gain(1)),
		of(gain(10)),
		of(gain(10), sell(3)),
		of(gain(10), holds(3, 20)),
		of(gain(10), holds(3, 20), sell(2), holds(1, 20)),
		of(gain(10), holds(3, 1), tick()),
		of(gain(10), sell(10), refund(1)),
		of(gain(most)),
	} {
		s := stock(t, before)
		isLast(t, of(before, sell(1)), done(s.Free-1, s.Held, s.Used+1))
		isLast(t, of(before, sell(s.Free)), done(0, s.Held, s.Used+s.Free))
		isLast(t, of(before, sell(s.Free), sell(1)), refused(api.ErrLess, 0, s.Held, s.Used+s.Free))
		if s.Free < most {
			isRefusedWithoutATrace(t, before, sell(s.Free+1), api.ErrLess)
			isRefusedWithoutATrace(t, before, sell(most), api.ErrLess)
		}
	}
}

func TestHoldOfJustWhatIsFreeAndOneMore(t *testing.T) { // P7.1
	for _, before := range [][]api.Order{
		of(gain(1)),
		of(gain(10)),
		of(gain(10), sell(3)),
		of(gain(10), sell(10), refund(1)),
		of(gain(most)),
	} {
		s := stock(t, before)
		isLast(t, of(before, holds(1, 5)), made(1, s.Free-1, 1, s.Used))
		isLast(t, of(before, holds(s.Free, 5)), made(1, 0, s.Free, s.Used))
		isLast(t, of(before, holds(s.Free, 5), holds(1, 5)), refused(api.ErrLess, 0, s.Free, s.Used))
		if s.Free < most {
			isRefusedWithoutATrace(t, before, holds(s.Free+1, 5), api.ErrLess)
			isRefusedWithoutATrace(t, before, holds(most, 5), api.ErrLess)
		}
	}
	// What others hold is not free.
	isRefusedWithoutATrace(t, of(gain(10), holds(6, 20)), holds(5, 5), api.ErrLess)
	isLast(t, of(gain(10), holds(6, 20), holds(4, 5)), made(2, 0, 10, 0))
}

func TestRefundOfJustWhatIsUsedAndOneMore(t *testing.T) { // P7.1
	for _, before := range [][]api.Order{
		of(gain(1), sell(1)),
		of(gain(10), sell(4)),
		of(gain(10), sell(4), sell(3), refund(2)),
		of(gain(10), sell(4), holds(6, 20)),
		of(gain(10), holds(6, 20), confirm(1)),
		of(gain(10), sell(1), holds(6, 20), confirm(1)),
		of(gain(most), sell(most)),
	} {
		s := stock(t, before)
		isLast(t, of(before, refund(1)), done(s.Free+1, s.Held, s.Used-1))
		isLast(t, of(before, refund(s.Used)), done(s.Free+s.Used, s.Held, 0))
		isLast(t, of(before, refund(s.Used), refund(1)), refused(api.ErrLess, s.Free+s.Used, s.Held, 0))
		isLast(t, of(before, refund(s.Used), sell(s.Used)), done(s.Free, s.Held, s.Used))
		if s.Used < most {
			isRefusedWithoutATrace(t, before, refund(s.Used+1), api.ErrLess)
			isRefusedWithoutATrace(t, before, refund(most), api.ErrLess)
		}
	}
	// What is free, or held, was not sold.
	isRefusedWithoutATrace(t, of(gain(10), holds(5, 20)), refund(1), api.ErrLess)
}

func TestAHoldIsOpenForLifeTicks(t *testing.T) { // P7.1
	for life := 1; life <= longest; life++ {
		before := of(gain(9), sell(1), holds(2, life))
		isLast(t, before, made(1, 6, 2, 1))
		for ticks := 0; ticks < life; ticks++ {
			open := of(before, times(ticks, tick()))
			if ticks > 0 {
				isLast(t, open, done(6, 2, 1))
			}
			isLast(t, of(open, confirm(1)), done(6, 0, 3))
			isLast(t, of(open, cancel(1)), done(8, 0, 1))
			isLast(t, of(open, confirm(1), times(life+1, tick())), done(6, 0, 3))
			isLast(t, of(open, cancel(1), times(life+1, tick())), done(8, 0, 1))
		}
		for ticks := life; ticks <= life+2; ticks++ {
			over := of(before, times(ticks, tick()))
			isLast(t, over, done(8, 0, 1))
			isRefusedWithoutATrace(t, over, confirm(1), api.ErrOld)
			isRefusedWithoutATrace(t, over, cancel(1), api.ErrOld)
		}
	}
}

func TestATickOfOneHoldBesideOthers(t *testing.T) { // P7.1
	isPlay(t, of(tick(), gain(5), tick(), sell(2), tick()), done(0, 0, 0), done(5, 0, 0), done(5, 0, 0), done(3, 0, 2), done(3, 0, 2))
	lives := []int{2, 1, 3, 5}
	for turn := range lives {
		turned := append(slices.Clone(lives[turn:]), lives[:turn]...)
		before := of(gain(100), sell(7))
		held, ids := map[int]int{}, map[int]int{}
		for i, life := range turned {
			count := 10 + i
			before = of(before, holds(count, life))
			held[life], ids[life] = count, i+1
		}
		for ticks := 1; ticks <= 6; ticks++ {
			all := 0
			for life, count := range held {
				if life > ticks {
					all += count
				}
			}
			behind := of(before, times(ticks, tick()))
			isLast(t, behind, done(93-all, all, 7))
			for life, id := range ids {
				if life > ticks {
					isLast(t, of(behind, confirm(id)), done(93-all, all-held[life], 7+held[life]))
					isLast(t, of(behind, cancel(id)), done(93-all+held[life], all-held[life], 7))
				} else {
					isLast(t, of(behind, confirm(id)), refused(api.ErrOld, 93-all, all, 7))
					isLast(t, of(behind, cancel(id)), refused(api.ErrOld, 93-all, all, 7))
				}
			}
		}
	}
	// Several are over at once.
	isLast(t, of(gain(50), holds(1, 1), holds(2, 2), holds(4, 1), holds(8, 2), tick(), tick()), made(4, 35, 15, 0), done(40, 10, 0), done(50, 0, 0))
	isLast(t, of(gain(50), holds(1, 1), holds(2, 1), holds(4, 1), holds(8, 1), tick()), done(50, 0, 0))
	// One that was made later has had fewer ticks.
	isLast(t, of(gain(9), holds(1, 2), tick(), holds(2, 2), tick(), tick()), made(2, 6, 3, 0), done(7, 2, 0), done(9, 0, 0))
}

func TestConfirmAndCancelAtEachPlace(t *testing.T) { // P7.1
	counts := []int{1, 10, 100, 1000}
	for n := 1; n <= room; n++ {
		before, all := of(gain(5000), sell(300)), 0
		for _, count := range counts[:n] {
			before, all = of(before, holds(count, 20)), all+count
		}
		for i, count := range counts[:n] {
			isLast(t, of(before, confirm(i+1)), done(4700-all, all-count, 300+count))
			isLast(t, of(before, cancel(i+1)), done(4700-all+count, all-count, 300))
			for j, other := range counts[:n] {
				if i != j {
					isLast(t, of(before, confirm(i+1), cancel(j+1)), done(4700-all+other, all-count-other, 300+count))
					isLast(t, of(before, cancel(i+1), confirm(j+1)), done(4700-all+count, all-count-other, 300+other))
					isLast(t, of(before, confirm(i+1), confirm(j+1)), done(4700-all, all-count-other, 300+count+other))
					isLast(t, of(before, cancel(i+1), cancel(j+1)), done(4700-all+count+other, all-count-other, 300))
				}
			}
		}
	}
}

func TestHoldsThatThereWereNot(t *testing.T) { // P7.1
	ids := []int{0, -1, -2, 1 << 32, 1<<32 + 1, -1 << 32, math.MaxInt, math.MinInt, math.MinInt + 1}
	for n := 0; n <= room; n++ {
		before := of(gain(10), sell(2), times(n, holds(1, 9)))
		for _, id := range append(slices.Clone(ids), n+1, n+2, n+1000) {
			for _, ended := range [][]api.Order{before, of(before, times(9, tick()))} {
				isRefusedWithoutATrace(t, ended, confirm(id), api.ErrNone)
				isRefusedWithoutATrace(t, ended, cancel(id), api.ErrNone)
			}
		}
	}
	// A hold that was refused is none.
	for _, o := range []api.Order{holds(0, 1), holds(1, 0), holds(1, 21), holds(11, 1)} {
		isLast(t, of(gain(10), o, confirm(1), cancel(1)), refused(api.ErrNone, 10, 0, 0), refused(api.ErrNone, 10, 0, 0))
	}
	isLast(t, of(gain(10), times(room+1, holds(1, 9)), confirm(5)), refused(api.ErrNone, 6, 4, 0))
}

func TestHoldsThatAreNotOpenAnyMore(t *testing.T) { // P7.1
	for n := 1; n <= room; n++ {
		for id := 1; id <= n; id++ {
			before := of(gain(20), sell(2), times(id-1, holds(2, 9)), holds(1, 1), times(n-id, holds(3, 9)))
			for _, end := range []api.Order{confirm(id), cancel(id), tick()} {
				ended := of(before, end)
				isRefusedWithoutATrace(t, ended, confirm(id), api.ErrOld)
				isRefusedWithoutATrace(t, ended, cancel(id), api.ErrOld)
				// It stays so behind others that are made.
				later := of(ended, holds(1, 9), tick())
				isRefusedWithoutATrace(t, later, confirm(id), api.ErrOld)
				isRefusedWithoutATrace(t, later, cancel(id), api.ErrOld)
			}
		}
	}
}

func TestMaxHoldsAreOpenAndOneMore(t *testing.T) { // P7.1
	full := of(gain(30), sell(5))
	for i := range room {
		full = of(full, holds(2, 9))
		isLast(t, full, made(i+1, 23-2*i, 2*i+2, 5))
	}
	isRefusedWithoutATrace(t, full, holds(1, 1), api.ErrFull)
	isRefusedWithoutATrace(t, full, holds(17, 20), api.ErrFull)
	for id := 1; id <= room; id++ {
		for _, again := range [][]api.Order{of(full, confirm(id)), of(full, cancel(id))} {
			s := stock(t, again)
			isLast(t, of(again, holds(3, 9)), made(5, s.Free-3, s.Held+3, s.Used))
			isLast(t, of(again, holds(3, 9), holds(1, 9)), refused(api.ErrFull, s.Free-3, s.Held+3, s.Used))
		}
		// One is over, the others are not.
		over := of(gain(30), times(id-1, holds(2, 9)), holds(2, 1), times(room-id, holds(2, 9)), holds(1, 9), tick())
		isLast(t, over, refused(api.ErrFull, 22, 8, 0), done(24, 6, 0))
		isLast(t, of(over, holds(3, 9), holds(1, 9)), made(5, 21, 9, 0), refused(api.ErrFull, 21, 9, 0))
	}
	// A refused Confirm or Cancel makes no room.
	isLast(t, of(full, confirm(5), cancel(0), holds(1, 1)), refused(api.ErrFull, 17, 8, 5))
}

func TestIdsGoOnBehindHoldsThatEnded(t *testing.T) { // P7.1
	l, want := of(gain(10)), []api.Stock{done(10, 0, 0)}
	for id := 1; id <= 100; id++ {
		l = of(l, holds(4, 1))
		want = append(want, made(id, 6, 4, 0))
		if id%2 == 0 {
			l = of(l, cancel(id))
		} else {
			l = of(l, tick())
		}
		want = append(want, done(10, 0, 0))
	}
	isPlay(t, l, want...)
	isLast(t, of(gain(10), holds(1, 5), holds(1, 5), cancel(2), holds(1, 5), confirm(1), holds(1, 5)), made(3, 8, 2, 0), done(8, 1, 1), made(4, 7, 2, 1))
	// One that is refused has no number.
	isLast(t, of(gain(5), holds(9, 1), holds(0, 1), holds(1, 0), holds(1, 1), holds(9, 1), holds(1, 1)), made(1, 4, 1, 0), refused(api.ErrLess, 4, 1, 0), made(2, 3, 2, 0))
}

func TestTwoThingsWrongAtOnce(t *testing.T) { // P7.1
	some := of(gain(10), sell(2), holds(3, 9))
	full := of(gain(10), sell(2), times(room, holds(1, 9)))
	none := of(gain(4), times(room, holds(1, 9)))
	for _, c := range []struct {
		before []api.Order
		o      api.Order
		want   api.Errno
	}{
		// Count ahead of whether there is room or as much.
		{of(gain(most)), gain(most + 1), api.ErrRange},
		{of(gain(most), sell(most)), gain(math.MaxInt), api.ErrRange},
		{some, sell(most + 1), api.ErrRange},
		{nil, sell(0), api.ErrRange},
		{some, refund(most + 1), api.ErrRange},
		{nil, refund(-1), api.ErrRange},
		{some, holds(most+1, 1), api.ErrRange},
		{full, holds(0, 1), api.ErrRange},
		{none, holds(most+1, 1), api.ErrRange},
		// Life ahead of how many are open, and of whether there is as much.
		{full, holds(1, 0), api.ErrRange},
		{full, holds(1, 21), api.ErrRange},
		{some, holds(9, 21), api.ErrRange},
		{none, holds(1, -1), api.ErrRange},
		// How many are open ahead of whether there is as much.
		{full, holds(9, 20), api.ErrFull},
		{none, holds(1, 1), api.ErrFull},
		{none, holds(most, 20), api.ErrFull},
	} {
		isRefusedWithoutATrace(t, c.before, c.o, c.want)
	}
}

func TestAHoldIsConfirmedOrFreeAgainNotBoth(t *testing.T) { // 'Examples of the whole'
	before := of(gain(5), holds(2, 3), tick(), tick())
	isLast(t, of(before, confirm(1), tick(), cancel(1)), done(3, 0, 2), done(3, 0, 2), refused(api.ErrOld, 3, 0, 2))
	isLast(t, of(before, cancel(1), tick(), confirm(1)), done(5, 0, 0), done(5, 0, 0), refused(api.ErrOld, 5, 0, 0))
	isLast(t, of(before, tick(), confirm(1)), done(5, 0, 0), refused(api.ErrOld, 5, 0, 0))
}

// reckoner keeps all that ever happened, and reckons what there is from that alone.
type reckoner struct {
	gained, sold, refunded, ticks int
	all                           []reckoned
}

type reckoned struct {
	count, over int // over: at which tick
	end         int // Confirm, Cancel or 0
}

func (r *reckoner) isOpen(i int) bool { return r.all[i].end == 0 && r.ticks < r.all[i].over }

func (r *reckoner) stock() (s api.Stock, open int) {
	s.Used = r.sold - r.refunded
	for i, h := range r.all {
		if h.end == api.Confirm {
			s.Used += h.count
		}
		if r.isOpen(i) {
			s.Held += h.count
			open++
		}
	}
	s.Free = r.gained - s.Held - s.Used
	return s, open
}

func (r *reckoner) refuse(o api.Order) api.Errno {
	s, open := r.stock()
	asks := map[int]int{api.Gain: most, api.Sell: s.Free, api.Hold: s.Free, api.Refund: s.Used, api.Confirm: 0, api.Cancel: 0, api.Tick: 0}
	has, is := asks[o.Kind]
	counts := o.Kind != api.Confirm && o.Kind != api.Cancel && o.Kind != api.Tick
	switch {
	case !is:
		return api.ErrKind
	case counts && (o.Count < 1 || o.Count > most), o.Kind == api.Hold && (o.Life < 1 || o.Life > longest):
		return api.ErrRange
	case o.Kind == api.Hold && open >= room:
		return api.ErrFull
	case counts && has < o.Count:
		return api.ErrLess
	case o.Kind == api.Gain && r.gained+o.Count > most:
		return api.ErrOver
	case o.Kind == api.Confirm || o.Kind == api.Cancel:
		if o.Id < 1 || o.Id > len(r.all) {
			return api.ErrNone
		}
		if !r.isOpen(o.Id - 1) {
			return api.ErrOld
		}
	}
	return api.OK
}

func (r *reckoner) do(o api.Order) api.Stock {
	id, code := 0, r.refuse(o)
	if code == api.OK {
		switch o.Kind {
		case api.Gain:
			r.gained += o.Count
		case api.Sell:
			r.sold += o.Count
		case api.Refund:
			r.refunded += o.Count
		case api.Tick:
			r.ticks++
		case api.Hold:
			r.all = append(r.all, reckoned{count: o.Count, over: r.ticks + o.Life})
			id = len(r.all)
		default:
			r.all[o.Id-1].end = o.Kind
		}
	}
	s, _ := r.stock()
	s.Code, s.Id = code, id
	return s
}

// isReckoned compares a play with what is reckoned, and checks that all that was gained is somewhere, once.
func isReckoned(t *testing.T, l []api.Order) []api.Stock {
	t.Helper()
	var r reckoner
	got := play(t, l)
	for i, o := range l {
		if want := r.do(o); got[i] != want {
			t.Fatalf("Play(%v): the order %d comes to %v, want %v", l[:i+1], i, got[i], want)
		}
		if s := got[i]; s.Free < 0 || s.Held < 0 || s.Used < 0 || s.Free+s.Held+s.Used != r.gained {
			t.Fatalf("Play(%v): %v behind %d gained", l[:i+1], s, r.gained)
		}
	}
	return got
}

func TestAllShortPlays(t *testing.T) { // P7.1
	each := of(gain(2), gain(most-1), sell(1), holds(1, 1), holds(2, 2), confirm(1), confirm(2), cancel(1), refund(1), tick())
	all := [][]api.Order{nil}
	for range 5 {
		var longer [][]api.Order
		for _, l := range all {
			for _, o := range each {
				longer = append(longer, of(l, o))
			}
		}
		for _, l := range longer {
			isReckoned(t, l)
		}
		all = longer
	}
}

// anyOrder takes an order by chance, the same at each run; at times one that is out of its range.
func anyOrder(r *rand.Rand, kind, below, ids int) api.Order {
	o := api.Order{Kind: kind, Count: 1 + r.Intn(below), Life: 1 + r.Intn(5), Id: max(0, ids-r.Intn(6))}
	switch r.Intn(60) {
	case 0:
		o.Count = noCounts[r.Intn(len(noCounts))]
	case 1:
		o.Life = noLives[r.Intn(len(noLives))]
	case 2:
		o.Kind = noKinds[r.Intn(len(noKinds))]
	case 3:
		o.Id = ids + 1 + r.Intn(3)
	case 4:
		o.Count = most
	case 5:
		o.Life = longest
	}
	return o
}

func TestManyPlays(t *testing.T) { // P7.1
	r := rand.New(rand.NewSource(7))
	seen := map[[2]int]int{}
	for range 2000 {
		var model reckoner
		l := make([]api.Order, r.Intn(deeds+1))
		below := []int{3, 8, 100, most}[r.Intn(4)]
		kinds := []int{1, 2, 3, 3, 3, 4, 5, 6, 7}
		for i := range l {
			l[i] = anyOrder(r, kinds[r.Intn(len(kinds))], below, len(model.all))
			model.do(l[i])
		}
		for i, s := range isReckoned(t, l) {
			seen[[2]int{l[i].Kind, int(s.Code)}]++
		}
	}
	for kind, codes := range map[int][]api.Errno{
		api.Gain:    {api.OK, api.ErrRange, api.ErrOver},
		api.Sell:    {api.OK, api.ErrRange, api.ErrLess},
		api.Hold:    {api.OK, api.ErrRange, api.ErrFull, api.ErrLess},
		api.Confirm: {api.OK, api.ErrNone, api.ErrOld},
		api.Cancel:  {api.OK, api.ErrNone, api.ErrOld},
		api.Refund:  {api.OK, api.ErrRange, api.ErrLess},
		api.Tick:    {api.OK},
		0:           {api.ErrKind},
	} {
		for _, code := range codes {
			if seen[[2]int{kind, int(code)}] < 20 {
				t.Errorf("the kind %d came to %d in %d orders: they are badly chosen", kind, code, seen[[2]int{kind, int(code)}])
			}
		}
	}
}

func TestNothingIsKeptFromCallToCall(t *testing.T) { // 'What holds everywhere'
	for range 3 {
		isPlay(t, of(gain(5), holds(2, 1), sell(1)), done(5, 0, 0), made(1, 3, 2, 0), done(2, 2, 1))
		if got, code := hold.Play(times(deeds+1, gain(1))); len(got) != 0 || code != api.ErrSize {
			t.Errorf("too many orders: %v %d", got, code)
		}
		isPlay(t, of(tick(), confirm(1)), done(0, 0, 0), refused(api.ErrNone, 0, 0, 0))
	}
}

// somePlays are lists that may be played, and one that may not.
func somePlays() [][]api.Order {
	r := rand.New(rand.NewSource(8))
	lists := [][]api.Order{nil, {}, of(gain(1)), of(sell(1)), of(api.Order{}), times(deeds, gain(1)), times(deeds+1, gain(1)), of(gain(9), times(5, holds(1, 2)), tick(), cancel(2), confirm(1), tick(), holds(1, 1))}
	for range 200 {
		l := of(gain(50))
		for range r.Intn(30) {
			l = of(l, anyOrder(r, 1+r.Intn(7), 9, 5))
		}
		lists = append(lists, l)
	}
	return lists
}

// roomy lays orders where there is room behind them, with orders in it; all is the list with that room.
func roomy(l []api.Order) (list, all []api.Order) {
	all = of(l, times(8, api.Order{Kind: 71, Count: 72, Life: 73, Id: 74}))
	return all[:len(l)], all
}

func TestListsAndTheRoomBehindThemAreLeft(t *testing.T) { // 'What holds everywhere'
	for _, l := range somePlays() {
		list, all := roomy(l)
		before := slices.Clone(all)
		hold.Play(list)
		if !slices.Equal(all, before) {
			t.Errorf("Play made %v of %v", all, before)
		}
	}
}

// spoil writes over a list and the room behind it.
func spoil[T any](l []T, with T) {
	l = l[:cap(l)]
	for i := range l {
		l[i] = with
	}
}

func TestAnswersAreNewMemory(t *testing.T) { // 'What holds everywhere'
	for _, l := range somePlays() {
		list, all := roomy(l)
		before := slices.Clone(all)
		one, _ := hold.Play(list)
		two, _ := hold.Play(list)
		want := slices.Clone(two)
		spoil(one, api.Stock{Code: -9, Id: -9, Free: -9, Held: -9, Used: -9})
		if !slices.Equal(all, before) || !slices.Equal(two, want) {
			t.Errorf("Play(%v): a change of one answer is seen elsewhere", l)
		}
		spoil(all, api.Order{Kind: -9})
		if !slices.Equal(two, want) {
			t.Errorf("Play(%v) keeps what it was handed", l)
		}
	}
}

func TestAStockTakesMoreOrdersThanAPlay(t *testing.T) { // a world's stocks, which layer 12 asks for
	var s hold.Stock
	if got := s.Now(); got != (api.Stock{}) {
		t.Fatalf("at first there is %v", got)
	}
	for i := range 2 * deeds {
		if got := s.Take(gain(2)); got != done(2+i, 0, i) {
			t.Fatalf("behind %d orders: %v", 2*i, got)
		}
		if got := s.Take(sell(1)); got != done(1+i, 0, 1+i) {
			t.Fatalf("behind %d orders: %v", 2*i+1, got)
		}
	}
	if got := s.Take(holds(5, 1)); got != made(1, 2*deeds-5, 5, 2*deeds) {
		t.Errorf("a hold comes to %v", got)
	}
	if got := s.Take(confirm(9)); got != refused(api.ErrNone, 2*deeds-5, 5, 2*deeds) {
		t.Errorf("a hold that there is not comes to %v", got)
	}
	// What there is has neither Code nor Id, and is not changed by being told.
	for range 2 {
		if got := s.Now(); got != done(2*deeds-5, 5, 2*deeds) {
			t.Errorf("there is %v", got)
		}
	}
}

// Example: as README.md tells it.
func Example() {
	told, _ := hold.Play([]api.Order{
		{Kind: api.Gain, Count: 9},
		{Kind: api.Hold, Count: 2, Life: 3},
		{Kind: api.Hold, Count: 4, Life: 1},
		{Kind: api.Tick},
		{Kind: api.Confirm, Id: 1},
		{Kind: api.Cancel, Id: 2},
		{Kind: api.Refund, Count: 1},
	})
	for _, s := range told {
		fmt.Println(s)
	}
	// Output:
	// {0 0 9 0 0}
	// {0 1 7 2 0}
	// {0 2 3 6 0}
	// {0 0 7 2 0}
	// {0 0 7 0 2}
	// {10 0 7 0 2}
	// {0 0 8 0 1}
}
