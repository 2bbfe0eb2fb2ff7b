package world_test

import (
	"fmt"
	"math"
	"math/rand"
	"slices"
	"testing"

	"splittally/api"
	"splittally/world"
)

// The limits, written out: MaxCount, MaxBranches, MaxLabels, MaxTicks, MaxItems, MaxKeys, MaxValue, MaxLife, MaxHolds and MaxDeeds.
const (
	most    = 1048576
	crowd   = 8
	tags    = 4
	epoch   = 8
	things  = 3
	shelf   = 8
	highest = 255
	life    = 20
	parts   = 4
	deeds   = 300
)

// below are less than any number that may be anywhere.
var below = []int{-1, -2, -8, -255, -256, -most, -1 << 32, math.MinInt, math.MinInt + 1}

// above are greater than any number that may be anywhere, and some of them wrap round to such as may be.
var above = []int{most + 1, most + 2, 2 * most, 1<<32 - 1, 1 << 32, 1<<32 + 1, 1<<32 + 3, 1 << 62, math.MaxInt - 1, math.MaxInt}

var wild = slices.Concat(below, above)

// anyNumbers are wild ones, and such as may be somewhere.
var anyNumbers = append([]int{0, 1, 2, 3, 4, 5, 7, 8, 9, 20, 21, 254, 255, 256, most - 1, most}, wild...)

var noKinds = append([]int{0, 12, 13, 255, 256, 257, 256 + api.Ticks, 1<<32 + api.Ticks, 1<<32 + api.Puts}, wild...)

// Steps, by what they name.
var tick = api.Step{Kind: api.Ticks}

func ask(who, item, count int) api.Step {
	return api.Step{Kind: api.AskFor, Who: who, Item: item, Count: count}
}

func sale(who, item, count int) api.Step {
	return api.Step{Kind: api.Sale, Who: who, Item: item, Count: count}
}

func holding(who, item, count, life int) api.Step {
	return api.Step{Kind: api.Holding, Who: who, Item: item, Count: count, Life: life}
}

func confirms(who, item, id int) api.Step {
	return api.Step{Kind: api.Confirms, Who: who, Item: item, Id: id}
}

func cancels(who, item, id int) api.Step {
	return api.Step{Kind: api.Cancels, Who: who, Item: item, Id: id}
}

func refunds(who, item, count int) api.Step {
	return api.Step{Kind: api.Refunds, Who: who, Item: item, Count: count}
}

func puts(who, label, key, count int) api.Step {
	return api.Step{Kind: api.Puts, Who: who, Label: label, Key: key, Count: count}
}

func gets(who, label, key int) api.Step {
	return api.Step{Kind: api.Gets, Who: who, Label: label, Key: key}
}

func deliver(id int) api.Step { return api.Step{Kind: api.Deliver, Id: id} }

func lose(id int) api.Step { return api.Step{Kind: api.Lose, Id: id} }

// of makes one list of steps and lists of steps.
func of(parts ...any) []api.Step {
	var l []api.Step
	for _, p := range parts {
		switch x := p.(type) {
		case api.Step:
			l = append(l, x)
		case []api.Step:
			l = append(l, x...)
		}
	}
	return l
}

func times(n int, s api.Step) []api.Step { return slices.Repeat([]api.Step{s}, n) }

func entry(key, value, time, who int) api.Entry {
	return api.Entry{Key: key, Value: value, Time: time, Who: who}
}

func stock(free, held, used int) api.Stock { return api.Stock{Free: free, Held: held, Used: used} }

// perTick is how many frames a tick sends.
func perTick(c api.Config) int { return c.Branches * (c.Branches + 1) }

// askAt is the number of the frame by which a branch asks, of a tick (from 0 on).
func askAt(c api.Config, tick, who int) int { return tick*perTick(c) + who*c.Branches }

// rumourAt is the number of the frame by which a branch tells another one what it has.
func rumourAt(c api.Config, tick, from, to int) int {
	if to > from {
		to--
	}
	return askAt(c, tick, from) + 1 + to
}

// grantAt is the number of the frame by which a branch is told what it was given.
func grantAt(c api.Config, tick, who int) int {
	return tick*perTick(c) + c.Branches*c.Branches + who
}

// ending is what End answers.
type ending struct {
	reserve []int
	purses  [][]api.Purse
	stores  [][][]api.Entry
}

func (x ending) is(y ending) bool {
	sameStore := func(a, b [][]api.Entry) bool { return slices.EqualFunc(a, b, slices.Equal[[]api.Entry]) }
	return slices.Equal(x.reserve, y.reserve) && slices.EqualFunc(x.purses, y.purses, slices.Equal[[]api.Purse]) &&
		slices.EqualFunc(x.stores, y.stores, sameStore)
}

// all is what there is of an item, wherever it is.
func (x ending) all(item int) int {
	n := x.reserve[item]
	for _, l := range x.purses {
		n += l[item].Stock.Free + l[item].Stock.Held + l[item].Stock.Used
	}
	return n
}

// play checks how many answers there are.
func play(t *testing.T, c api.Config, l []api.Step) []api.Told {
	t.Helper()
	told, code := world.Play(c, l)
	if code != api.OK || len(told) != len(l) {
		t.Fatalf("Play(%+v) of %d steps: %d answers and %d, want %d and 0", c, len(l), len(told), code, len(l))
	}
	return told
}

// end checks how many answers there are of each, and that nobody has entries of a label in which it is not.
func end(t *testing.T, c api.Config, l []api.Step) ending {
	t.Helper()
	reserve, purses, stores, code := world.End(c, l)
	x := ending{reserve, purses, stores}
	ok := code == api.OK && len(reserve) == len(c.Minted) && len(purses) == c.Branches && len(stores) == c.Branches
	for who := 0; ok && who < c.Branches; who++ {
		ok = len(purses[who]) == len(c.Minted) && len(stores[who]) == len(c.Labels)
		for label := 0; ok && label < len(c.Labels); label++ {
			ok = len(stores[who][label]) == 0 || c.Labels[label]>>who&1 == 1
		}
	}
	if !ok {
		t.Fatalf("End(%+v) of %d steps: %v and %d", c, len(l), x, code)
	}
	return x
}

// isLast compares what the last steps come to.
func isLast(t *testing.T, c api.Config, l []api.Step, want ...api.Told) {
	t.Helper()
	told := play(t, c, l)
	first := len(told) - len(want)
	for i, x := range want {
		if !sameTold(told[first+i], x) {
			t.Errorf("Play(%+v, %v): the step %d comes to %v, want %v", c, l, first+i, told[first+i], x)
		}
	}
}

func isEnd(t *testing.T, c api.Config, l []api.Step, want ending) {
	t.Helper()
	if got := end(t, c, l); !got.is(want) {
		t.Errorf("End(%+v, %v): %v, want %v", c, l, got, want)
	}
}

// isRefused compares the answers of both functions to a whole play.
func isRefused(t *testing.T, c api.Config, l []api.Step, want api.Errno) {
	t.Helper()
	if told, code := world.Play(c, l); len(told) != 0 || code != want {
		t.Errorf("Play(%+v) of %d steps: %v %d, want none and %d", c, len(l), told, code, want)
	}
	if reserve, purses, stores, code := world.End(c, l); len(reserve) != 0 || len(purses) != 0 || len(stores) != 0 || code != want {
		t.Errorf("End(%+v) of %d steps: %v %v %v %d, want none and %d", c, len(l), reserve, purses, stores, code, want)
	}
}

// leavesNoTrace compares what a step comes to, and checks that all behind it comes to the same as without it.
func leavesNoTrace(t *testing.T, c api.Config, before []api.Step, s api.Step, want api.Told) {
	t.Helper()
	behind := allDo(c, before)
	behind = behind[:min(len(behind), deeds-1-len(before))]
	with, without := play(t, c, of(before, s, behind)), play(t, c, of(before, behind))
	if !sameTold(with[len(before)], want) {
		t.Errorf("%+v behind %v: %+v comes to %v, want %v", c, before, s, with[len(before)], want)
	}
	if got := slices.Delete(slices.Clone(with), len(before), len(before)+1); !slices.EqualFunc(got, without, sameTold) {
		t.Errorf("%+v behind %v: %+v leaves a trace: %v, want %v", c, before, s, got, without)
	}
	for _, l := range [][]api.Step{nil, behind} {
		if got, want := end(t, c, of(before, s, l)), end(t, c, of(before, l)); !got.is(want) {
			t.Errorf("%+v behind %v: %+v leaves a trace: %v, want %v", c, before, s, got, want)
		}
	}
}

// allDo are steps of each kind of all branches, and a tick all frames of which are delivered, with some of those before.
func allDo(c api.Config, before []api.Step) []api.Step {
	ticks := 0
	for _, s := range before {
		if s.Kind == api.Ticks {
			ticks++
		}
	}
	var l []api.Step
	for who := range c.Branches {
		for item := range c.Minted {
			l = of(l, confirms(who, item, 1), cancels(who, item, 2), sale(who, item, 1), refunds(who, item, 1), holding(who, item, 1, 2), ask(who, item, 1))
		}
		for label := range c.Labels {
			l = of(l, gets(who, label, 2), puts(who, label, 3, 7))
		}
	}
	for id := max(0, (ticks-1)*perTick(c)); id < ticks*perTick(c); id++ {
		l = of(l, lose(id), deliver(id))
	}
	l = of(l, tick)
	for id := range perTick(c) {
		l = of(l, deliver(ticks*perTick(c)+id))
	}
	return l
}

// plain is of 0, 1 and 2: the label 0 is of 0 and 1, 1 of 1 and 2, 2 of all, 3 of nobody.
func plain() api.Config {
	return api.Config{Branches: 3, Labels: []int{3, 6, 7, 0}, Ticks: 2, Minted: []int{20, 7, 0}, Cap: 4}
}

// with is a config that is changed in some way.
func with(c api.Config, change func(c *api.Config)) api.Config {
	c.Labels, c.Minted = slices.Clone(c.Labels), slices.Clone(c.Minted)
	change(&c)
	return c
}

// rich is of two branches that are given within a tick all they ask for.
func rich() api.Config {
	return api.Config{Branches: 2, Labels: []int{3, 1, 2, 3}, Ticks: 1, Minted: []int{1000, 1000, 1000}, Cap: 500}
}

// fetched are steps behind which each branch has all that it asked for, two ticks later.
func fetched(c api.Config, asks ...api.Step) []api.Step {
	l := of(asks, tick)
	for who := range c.Branches {
		l = of(l, deliver(askAt(c, 0, who)))
	}
	l = of(l, tick)
	for who := range c.Branches {
		l = of(l, deliver(grantAt(c, 1, who)))
	}
	return l
}

// empty is the end of a play that came to nothing.
func empty(c api.Config) ending {
	x := ending{reserve: slices.Clone(c.Minted)}
	for range c.Branches {
		x.purses = append(x.purses, make([]api.Purse, len(c.Minted)))
		x.stores = append(x.stores, make([][]api.Entry, len(c.Labels)))
	}
	return x
}

func TestTheExampleOfTheWhole(t *testing.T) { // DOC.md: 'Examples of the whole'
	c := api.Config{Branches: 4, Labels: []int{9}, Ticks: 2, Minted: []int{20}, Cap: 4}
	l := of(ask(1, 0, 5), puts(0, 0, 3, 77), tick, deliver(askAt(c, 0, 1)), tick, tick, tick)
	told := play(t, c, l)
	for i, want := range map[int][]int{2: {20}, 4: nil, 5: {16}, 6: nil} {
		if !slices.Equal(told[i].Report, want) {
			t.Errorf("the step %d reports %v, want %v", i, told[i].Report, want)
		}
		for at, x := range told[i].Sent {
			if x.Size != told[2].Sent[at].Size {
				t.Errorf("the step %d sends %v, and the first tick %v", i, x, told[2].Sent[at])
			}
		}
	}
	// It is given 4 in the first epoch, and 1 in the next one.
	isLast(t, c, of(l, deliver(grantAt(c, 1, 1))), api.Told{Who: 1, Frame: []byte{0, 0, 4 << 3}})
	isLast(t, c, of(l, deliver(grantAt(c, 2, 1)), sale(1, 0, 5)), api.Told{Who: 1, Frame: []byte{0, 0, 5 << 3}}, api.Told{Who: 1, Stock: stock(0, 0, 5)})
	// The note comes to 3, also by way of a frame that was sent later than one that was lost, and to nobody else.
	isLast(t, c, of(l, lose(rumourAt(c, 0, 0, 3)), deliver(rumourAt(c, 1, 0, 3)), gets(3, 0, 3)), api.Told{Who: 3, Value: 77})
	for _, to := range []int{1, 2} {
		isLast(t, c, of(l, deliver(rumourAt(c, 0, 0, to)), gets(to, 0, 3)), api.Told{Who: to}, api.Told{Code: api.ErrDenied, Who: to})
	}
	// A hold of 2 for three ticks.
	h := of(ask(1, 0, 5), tick, deliver(askAt(c, 0, 1)), tick, deliver(grantAt(c, 1, 1)), holding(1, 0, 2, 3))
	isLast(t, c, of(h, tick, tick, confirms(1, 0, 1)), api.Told{Who: 1, Stock: stock(2, 0, 2)})
	isLast(t, c, of(h, tick, tick, tick, confirms(1, 0, 1)), api.Told{Code: api.ErrOld, Who: 1, Stock: stock(4, 0, 0)})
}

func TestPlaysByTheCountOfSteps(t *testing.T) { // P12.1, P12.4
	c := plain()
	isLast(t, c, nil)
	isLast(t, c, []api.Step{})
	isEnd(t, c, nil, empty(c))
	isEnd(t, c, []api.Step{}, empty(c))
	for _, n := range []int{1, 2, 150, deeds - 1, deeds} {
		for _, s := range []api.Step{ask(1, 1, 3), puts(1, 2, 7, 9), tick, {}, deliver(0), sale(3, 0, 1)} {
			isReckoned(t, c, times(n, s))
		}
	}
	for _, n := range []int{deeds + 1, deeds + 2, 2 * deeds, 65536, 65536 + deeds} {
		for _, s := range []api.Step{ask(1, 1, 3), tick, {}, deliver(0), {Kind: math.MinInt, Who: math.MaxInt, Item: math.MinInt}} {
			isRefused(t, c, times(n, s), api.ErrSize)
		}
	}
}

// wrongConfigs are plain but for one thing, below or above what may be, and some of more than one.
func wrongConfigs() []api.Config {
	var l []api.Config
	add := func(change func(c *api.Config)) { l = append(l, with(plain(), change)) }
	for _, n := range append([]int{0, crowd + 1, 64}, wild...) {
		add(func(c *api.Config) { c.Branches = n })
		add(func(c *api.Config) { c.Branches, c.Labels = n, nil })
	}
	for _, n := range append([]int{8, 15, 256}, wild...) {
		for place := range tags {
			add(func(c *api.Config) { c.Labels[place] = n })
		}
	}
	for _, n := range append([]int{0, epoch + 1}, wild...) {
		add(func(c *api.Config) { c.Ticks = n })
	}
	for _, n := range wild {
		for place := range things {
			add(func(c *api.Config) { c.Minted[place] = n })
		}
		add(func(c *api.Config) { c.Cap = n })
		add(func(c *api.Config) { c.Branches, c.Ticks, c.Cap, c.Labels, c.Minted = n, n, n, []int{n}, []int{n} })
	}
	add(func(c *api.Config) { c.Labels = make([]int, tags+1) })
	add(func(c *api.Config) { c.Minted = nil })
	add(func(c *api.Config) { c.Minted = []int{} })
	add(func(c *api.Config) { c.Minted = make([]int, things+1) })
	return append(l, api.Config{})
}

func TestAConfigThatMayNotBe(t *testing.T) { // P12.1, P12.4: ErrForm ahead of ErrSize
	for _, c := range wrongConfigs() {
		for _, l := range [][]api.Step{nil, {}, {{}}, of(tick, ask(0, 0, 1)), times(deeds, tick), times(deeds+1, tick), times(deeds+1, api.Step{})} {
			isRefused(t, c, l, api.ErrForm)
		}
	}
}

func TestTheLeastAndTheGreatestConfigs(t *testing.T) { // P12.1
	r := rand.New(rand.NewSource(1))
	for _, branches := range []int{1, 2, crowd - 1, crowd} {
		for _, items := range []int{1, 2, things} {
			for _, labels := range []int{0, 1, tags} {
				for _, minted := range []int{0, 1, most} {
					for _, limit := range []int{0, 1, most} {
						c := api.Config{Branches: branches, Labels: slices.Repeat([]int{1<<branches - 1}, labels), Ticks: 1 + r.Intn(epoch), Minted: slices.Repeat([]int{minted}, items), Cap: limit}
						isEnd(t, c, nil, empty(c))
						isReckoned(t, c, allDo(c, nil))
						isReckoned(t, c, fetched(c, ask(0, 0, 1), ask(branches-1, items-1, most)))
						isReckoned(t, c, anyPlay(r, c, 60))
					}
				}
			}
		}
	}
	// To one of many, its quotas of two epochs.
	c := api.Config{Branches: crowd, Ticks: epoch, Minted: []int{most, most, most}, Cap: most}
	l := of(ask(7, 2, most), tick, deliver(askAt(c, 0, 7)), tick, times(epoch, tick), deliver(grantAt(c, epoch, 7)))
	x := end(t, c, l)
	if x.purses[7][2] != (api.Purse{Asked: most, Stock: stock(most/8+7*most/64, 0, 0)}) {
		t.Errorf("the branch 7 has %v", x.purses[7][2])
	}
	// To one alone, all there may be.
	alone := api.Config{Branches: 1, Ticks: 1, Minted: []int{most}, Cap: most}
	isLast(t, alone, of(fetched(alone, ask(0, 0, most)), sale(0, 0, most), refunds(0, 0, most), holding(0, 0, most, life)),
		api.Told{Frame: []byte{128, 0, 0}}, api.Told{Stock: stock(0, 0, most)}, api.Told{Stock: stock(most, 0, 0)}, api.Told{Stock: api.Stock{Id: 1, Held: most}})
}

func TestAsks(t *testing.T) { // P12.1: AskFor
	c := plain()
	for who := range 3 {
		for item := range 3 {
			for _, n := range []int{1, 2, most - 1, most} {
				isLast(t, c, of(ask(who, item, n)), api.Told{Who: who})
				want := empty(c)
				want.purses[who][item].Asked = n
				isEnd(t, c, of(ask(who, item, n)), want)
				if n < most {
					isLast(t, c, of(ask(who, item, n), ask(who, item, most-n)), api.Told{Who: who}, api.Told{Who: who})
					want.purses[who][item].Asked = most
					isEnd(t, c, of(ask(who, item, n), ask(who, item, most-n)), want)
				}
				for _, more := range []int{most - n + 1, most} {
					leavesNoTrace(t, c, of(ask(who, item, n)), ask(who, item, more), api.Told{Code: api.ErrOver, Who: who})
				}
			}
			// Others' asks, and those of other items, are apart.
			full := of(ask(who, item, most/2), ask(who, item, most/2))
			leavesNoTrace(t, c, full, ask(who, item, 1), api.Told{Code: api.ErrOver, Who: who})
			leavesNoTrace(t, c, full, ask(who, item, most), api.Told{Code: api.ErrOver, Who: who})
			isLast(t, c, of(full, ask((who+1)%3, item, most)), api.Told{Who: (who + 1) % 3})
			isLast(t, c, of(full, ask(who, (item+1)%3, most)), api.Told{Who: who})
			for _, n := range append([]int{0}, wild...) {
				leavesNoTrace(t, c, full, ask(who, item, n), api.Told{Code: api.ErrRange, Who: who})
				leavesNoTrace(t, c, nil, ask(who, item, n), api.Told{Code: api.ErrRange, Who: who})
			}
		}
	}
	// One by one.
	l := times(deeds-1, ask(2, 1, 1))
	want := empty(c)
	want.purses[2][1].Asked = deeds - 1
	isEnd(t, c, l, want)
	// What was given is asked for no less.
	rich := rich()
	isLast(t, rich, of(fetched(rich, ask(0, 0, 10)), ask(0, 0, most-10), ask(0, 0, 1)), api.Told{}, api.Told{Code: api.ErrOver})
}

func TestOrdersThatAreDone(t *testing.T) { // P12.1: Sale, Holding, Confirms, Cancels, Refunds
	c := rich()
	for who := range 2 {
		for item := range 3 {
			before := fetched(c, ask(who, item, 10))
			isLast(t, c, of(before,
				sale(who, item, 4), holding(who, item, 3, 2), holding(who, item, 1, life), confirms(who, item, 1), cancels(who, item, 2), refunds(who, item, 5)),
				api.Told{Who: who, Stock: stock(6, 0, 4)},
				api.Told{Who: who, Stock: api.Stock{Id: 1, Free: 3, Held: 3, Used: 4}},
				api.Told{Who: who, Stock: api.Stock{Id: 2, Free: 2, Held: 4, Used: 4}},
				api.Told{Who: who, Stock: stock(2, 1, 7)},
				api.Told{Who: who, Stock: stock(3, 0, 7)},
				api.Told{Who: who, Stock: stock(8, 0, 2)})
			// All at once.
			isLast(t, c, of(before, sale(who, item, 10), refunds(who, item, 10), holding(who, item, 10, 1)),
				api.Told{Who: who, Stock: stock(0, 0, 10)},
				api.Told{Who: who, Stock: stock(10, 0, 0)},
				api.Told{Who: who, Stock: api.Stock{Id: 1, Held: 10}})
			// Nothing of it is seen in other stocks.
			isLast(t, c, of(before, sale(who, item, 4), sale(1-who, item, 1), sale(who, (item+1)%3, 1)),
				api.Told{Code: api.ErrLess, Who: 1 - who}, api.Told{Code: api.ErrLess, Who: who})
			isLast(t, c, of(before, holding(who, item, 4, 2), confirms(1-who, item, 1), cancels(who, (item+1)%3, 1)),
				api.Told{Code: api.ErrNone, Who: 1 - who}, api.Told{Code: api.ErrNone, Who: who})
		}
	}
}

func TestOrdersThatAreRefused(t *testing.T) { // P12.1: Sale, Holding, Confirms, Cancels, Refunds, as P7.1 refuses them
	c := rich()
	for who := range 2 {
		for item := range 3 {
			// 3 free; the hold 1 is used, 2 free again, 3 to 6 are open, with 1 each.
			before := of(fetched(c, ask(who, item, 10)), sale(who, item, 2), holding(who, item, 1, 2), confirms(who, item, 1), holding(who, item, 1, 2), cancels(who, item, 2))
			some := stock(7, 0, 3)
			full := of(before, times(parts, holding(who, item, 1, 5)))
			filled := stock(3, 4, 3)
			is := func(before []api.Step, s api.Step, code api.Errno, x api.Stock) {
				t.Helper()
				leavesNoTrace(t, c, before, s, api.Told{Code: code, Who: who, Stock: x})
			}
			is(before, sale(who, item, 8), api.ErrLess, some)
			is(before, sale(who, item, most), api.ErrLess, some)
			is(before, holding(who, item, 8, 1), api.ErrLess, some)
			is(before, holding(who, item, most, life), api.ErrLess, some)
			is(before, refunds(who, item, 4), api.ErrLess, some)
			is(before, refunds(who, item, most), api.ErrLess, some)
			is(full, holding(who, item, 1, 1), api.ErrFull, filled)
			is(full, holding(who, item, most, 1), api.ErrFull, filled)
			is(full, holding(who, item, 1, 0), api.ErrRange, filled)
			for _, n := range append([]int{0}, wild...) {
				is(before, sale(who, item, n), api.ErrRange, some)
				is(before, refunds(who, item, n), api.ErrRange, some)
				is(before, holding(who, item, n, 1), api.ErrRange, some)
				is(before, holding(who, item, 1, n), api.ErrRange, some)
				is(full, holding(who, item, n, n), api.ErrRange, filled)
				is(before, confirms(who, item, n), api.ErrNone, some)
				is(before, cancels(who, item, n), api.ErrNone, some)
			}
			is(before, holding(who, item, 1, life+1), api.ErrRange, some)
			for _, id := range []int{1, 2} {
				is(full, confirms(who, item, id), api.ErrOld, filled)
				is(full, cancels(who, item, id), api.ErrOld, filled)
			}
			for _, id := range []int{0, 7, 8, 255} {
				is(full, confirms(who, item, id), api.ErrNone, filled)
				is(full, cancels(who, item, id), api.ErrNone, filled)
			}
		}
	}
}

func TestAStockInWhichNothingIs(t *testing.T) { // P12.1
	c := plain()
	for who := range 3 {
		for item := range 3 {
			for s, code := range map[api.Step]api.Errno{
				sale(who, item, 1): api.ErrLess, sale(who, item, most): api.ErrLess, holding(who, item, 1, 1): api.ErrLess, refunds(who, item, 1): api.ErrLess,
				confirms(who, item, 1): api.ErrNone, cancels(who, item, 1): api.ErrNone, confirms(who, item, 0): api.ErrNone, cancels(who, item, 0): api.ErrNone,
				sale(who, item, 0): api.ErrRange, refunds(who, item, 0): api.ErrRange, holding(who, item, 0, 1): api.ErrRange, holding(who, item, 1, 0): api.ErrRange,
			} {
				leavesNoTrace(t, c, nil, s, api.Told{Code: code, Who: who})
				// Nor has it anything by asking, nor ahead of the frame that tells of it.
				l := of(ask(who, item, 3), tick, deliver(askAt(c, 0, who)), tick)
				leavesNoTrace(t, c, l, s, api.Told{Code: code, Who: who})
			}
		}
	}
}

func TestNotesOfEachKeyAndLabel(t *testing.T) { // P12.1: Puts, Gets
	c := with(plain(), func(c *api.Config) { c.Labels = []int{7, 3, 6, 7} })
	for key := range shelf {
		for _, label := range []int{0, 3} {
			for who := range 3 {
				for _, value := range []int{0, 1, 100, highest - 1, highest} {
					isLast(t, c, of(puts(who, label, key, value), gets(who, label, key)), api.Told{Who: who}, api.Told{Who: who, Value: value})
					want := empty(c)
					want.stores[who][label] = []api.Entry{entry(key, value, 1, who)}
					isEnd(t, c, of(puts(who, label, key, value), gets(who, label, key)), want)
				}
				// Twice, the last one counts.
				want := empty(c)
				want.stores[who][label] = []api.Entry{entry(key, 3, 2, who)}
				isEnd(t, c, of(puts(who, label, key, 200), puts(who, label, key, 3)), want)
				isLast(t, c, of(puts(who, label, key, 200), puts(who, label, key, 3), gets(who, label, key)), api.Told{Who: who, Value: 3})
				// There is none under other keys, of other labels, of others.
				before := of(puts(who, label, key, 9))
				leavesNoTrace(t, c, before, gets(who, label, (key+1)%shelf), api.Told{Code: api.ErrNone, Who: who})
				leavesNoTrace(t, c, before, gets(who, 3-label, key), api.Told{Code: api.ErrNone, Who: who})
				leavesNoTrace(t, c, before, gets((who+1)%3, label, key), api.Told{Code: api.ErrNone, Who: (who + 1) % 3})
				leavesNoTrace(t, c, before, gets(who, label, key), api.Told{Who: who, Value: 9})
			}
		}
	}
	// By different branches under the same key: each has its own.
	l := of(puts(0, 0, 4, 10), puts(1, 0, 4, 11), puts(2, 0, 4, 12))
	isLast(t, c, of(l, gets(0, 0, 4), gets(1, 0, 4), gets(2, 0, 4)), api.Told{Value: 10}, api.Told{Who: 1, Value: 11}, api.Told{Who: 2, Value: 12})
}

func TestNotesThatAreRefused(t *testing.T) { // P12.1: Puts, Gets
	c := plain()
	before := of(puts(0, 2, 1, 5), puts(1, 0, 2, 6), puts(1, 1, 7, 9), tick)
	for who := range 3 {
		for _, n := range append([]int{4, 5, 255}, wild...) {
			leavesNoTrace(t, c, before, puts(who, n, 1, 1), api.Told{Code: api.ErrRange, Who: who})
			leavesNoTrace(t, c, before, gets(who, n, 1), api.Told{Code: api.ErrRange, Who: who})
		}
		for _, n := range append([]int{8, 9, 15, 16, 255}, wild...) {
			for label := range 4 {
				leavesNoTrace(t, c, before, puts(who, label, n, 1), api.Told{Code: api.ErrRange, Who: who})
				leavesNoTrace(t, c, before, gets(who, label, n), api.Told{Code: api.ErrRange, Who: who})
			}
		}
		for _, n := range append([]int{256, 257, 511, 512, most}, wild...) {
			for label := range 4 {
				leavesNoTrace(t, c, before, puts(who, label, 1, n), api.Told{Code: api.ErrRange, Who: who})
			}
			// Of a Gets it is not looked at.
			s := gets(who, 2, 1)
			s.Count = n
			want := api.Told{Code: api.ErrNone, Who: who}
			if who == 0 {
				want = api.Told{Value: 5}
			}
			leavesNoTrace(t, c, before, s, want)
		}
		for label, members := range c.Labels {
			for _, key := range []int{0, 1, 2, 7} {
				if members>>who&1 == 0 {
					leavesNoTrace(t, c, before, puts(who, label, key, 1), api.Told{Code: api.ErrDenied, Who: who})
					leavesNoTrace(t, c, before, gets(who, label, key), api.Told{Code: api.ErrDenied, Who: who})
				}
			}
		}
	}
	none := with(c, func(c *api.Config) { c.Labels = nil })
	for _, n := range append([]int{0, 1, 4}, wild...) {
		leavesNoTrace(t, none, nil, puts(1, n, 0, 0), api.Told{Code: api.ErrRange, Who: 1})
		leavesNoTrace(t, none, nil, gets(1, n, 0), api.Told{Code: api.ErrRange, Who: 1})
	}
}

// branchSteps are one of each kind that is a branch's, which may be.
func branchSteps(who int) []api.Step {
	return of(ask(who, 1, 2), sale(who, 1, 1), holding(who, 1, 1, 2), confirms(who, 1, 1), cancels(who, 1, 1), refunds(who, 1, 1), puts(who, 2, 3, 4), gets(who, 2, 3))
}

func TestWhoIsTold(t *testing.T) { // P12.1
	c := plain()
	before := fetched(c, ask(0, 1, 2), ask(1, 1, 2), ask(2, 1, 2))
	for who := range 3 {
		for _, s := range branchSteps(who) {
			if x := play(t, c, of(before, s))[len(before)]; x.Who != who {
				t.Errorf("%v comes to %v: want %d told", s, x, who)
			}
			// Also of one that is refused.
			s.Item, s.Label = 3, 4
			leavesNoTrace(t, c, before, s, api.Told{Code: api.ErrRange, Who: who})
		}
		// Nobody is told of a tick, of one that is of no kind, and of what is lost.
		isLast(t, c, of(api.Step{Who: who}, api.Step{Kind: api.Lose, Who: who}), api.Told{Code: api.ErrKind}, api.Told{Code: api.ErrNone})
		if x := play(t, c, of(api.Step{Kind: api.Ticks, Who: who}))[0]; x.Who != 0 {
			t.Errorf("a tick comes to %v", x)
		}
	}
}

func TestBranchesThatThereAreNot(t *testing.T) { // P12.1
	for _, c := range []api.Config{plain(), with(plain(), func(c *api.Config) { c.Branches = crowd })} {
		before := of(ask(1, 1, 2), puts(0, 2, 3, 9), tick, deliver(askAt(c, 0, 1)))
		// The broker's own number, too.
		for _, n := range append([]int{c.Branches, c.Branches + 1, crowd, crowd + 1, 63, 64, 255}, wild...) {
			if n == c.Branches-1 {
				continue
			}
			for _, s := range branchSteps(n) {
				leavesNoTrace(t, c, before, s, api.Told{Code: api.ErrRange})
				// Whatever else is wrong.
				leavesNoTrace(t, c, before, api.Step{Kind: s.Kind, Who: n, Item: n, Count: n, Life: n, Id: n, Label: n, Key: n}, api.Told{Code: api.ErrRange})
			}
		}
	}
}

func TestItemsThatThereAreNot(t *testing.T) { // P12.1
	for items := 1; items <= things; items++ {
		c := with(plain(), func(c *api.Config) { c.Minted = slices.Repeat([]int{9}, items) })
		before := fetched(c, ask(1, 0, 3), ask(2, items-1, 2))
		for _, n := range append([]int{items, items + 1, things, 255}, wild...) {
			for _, s := range branchSteps(1)[:6] {
				s.Item = n
				leavesNoTrace(t, c, before, s, api.Told{Code: api.ErrRange, Who: 1})
				// Ahead of what the stock comes to, or the ask.
				leavesNoTrace(t, c, before, api.Step{Kind: s.Kind, Who: 1, Item: n, Count: most + 1, Id: -1}, api.Told{Code: api.ErrRange, Who: 1})
				leavesNoTrace(t, c, of(before, ask(1, 0, most-9)), api.Step{Kind: s.Kind, Who: 1, Item: n, Count: most}, api.Told{Code: api.ErrRange, Who: 1})
			}
		}
	}
}

func TestKindsThatThereAreNot(t *testing.T) { // P12.1
	c := plain()
	for _, before := range [][]api.Step{nil, fetched(c, ask(1, 0, 3))} {
		for _, kind := range noKinds {
			leavesNoTrace(t, c, before, api.Step{Kind: kind}, api.Told{Code: api.ErrKind})
			leavesNoTrace(t, c, before, api.Step{Kind: kind, Item: 1, Count: 1, Life: 1, Id: 1, Label: 2, Key: 1}, api.Told{Code: api.ErrKind})
			// With a branch that there is, and ones that there are not.
			for _, n := range append([]int{1, 2, 3, 4}, wild...) {
				leavesNoTrace(t, c, before, api.Step{Kind: kind, Who: n}, api.Told{Code: api.ErrKind})
			}
			leavesNoTrace(t, c, before, api.Step{Kind: kind, Who: -1, Item: 3, Count: -1, Life: 21, Id: -1, Label: 4, Key: 8}, api.Told{Code: api.ErrKind})
		}
	}
}

func TestTheErrorThatIsNamedFirst(t *testing.T) { // P12.1
	c := plain()
	before := of(fetched(c, ask(0, 0, 3), ask(1, 0, most)), puts(1, 1, 2, 6), holding(0, 0, 1, 1), cancels(0, 0, 1))
	for s, want := range map[api.Step]api.Told{
		ask(0, 3, most):         {Code: api.ErrRange},
		ask(1, 0, most+1):       {Code: api.ErrRange, Who: 1},
		ask(1, 0, 0):            {Code: api.ErrRange, Who: 1},
		ask(1, 3, most):         {Code: api.ErrRange, Who: 1},
		ask(1, 0, most):         {Code: api.ErrOver, Who: 1},
		sale(0, 3, most):        {Code: api.ErrRange},
		sale(0, -1, 0):          {Code: api.ErrRange},
		confirms(0, 3, 1):       {Code: api.ErrRange},
		cancels(0, -1, 9):       {Code: api.ErrRange},
		holding(0, 0, most, 21): {Code: api.ErrRange, Stock: stock(3, 0, 0)},
		holding(0, 0, most, 20): {Code: api.ErrLess, Stock: stock(3, 0, 0)},
		// What is out of its range ahead of a label in which it is not, and that ahead of what there is not.
		puts(0, 1, 8, 1):   {Code: api.ErrRange},
		puts(0, 1, 2, 256): {Code: api.ErrRange},
		puts(0, 1, 2, -1):  {Code: api.ErrRange},
		puts(0, 1, 2, 1):   {Code: api.ErrDenied},
		gets(0, 1, 8):      {Code: api.ErrRange},
		gets(0, 1, -1):     {Code: api.ErrRange},
		gets(0, 4, 2):      {Code: api.ErrRange},
		gets(0, 1, 2):      {Code: api.ErrDenied},
		gets(0, 1, 3):      {Code: api.ErrDenied},
		gets(0, 0, 3):      {Code: api.ErrNone},
		gets(2, 3, 3):      {Code: api.ErrDenied, Who: 2},
	} {
		leavesNoTrace(t, c, before, s, want)
	}
}

func TestFieldsThatAStepDoesNotUse(t *testing.T) { // P12.1, P12.2, P12.3
	c := plain()
	before := of(fetched(c, ask(0, 0, 3), ask(1, 0, 4)), holding(1, 0, 1, 3), holding(1, 0, 1, 3), puts(1, 2, 3, 9), sale(1, 0, 1))
	// Which fields each kind uses, by their letters.
	uses := map[int]string{
		api.AskFor: "wic", api.Sale: "wic", api.Holding: "wicf", api.Confirms: "wid", api.Cancels: "wid", api.Refunds: "wic",
		api.Puts: "wckl", api.Gets: "wkl", api.Ticks: "", api.Deliver: "d", api.Lose: "d",
	}
	for _, s := range of(ask(1, 0, 2), sale(1, 0, 1), holding(1, 0, 1, 2), confirms(1, 0, 1), cancels(1, 0, 2), refunds(1, 0, 1), puts(1, 2, 3, 4), gets(1, 2, 3), tick, deliver(13), lose(13)) {
		behind := allDo(c, before)
		want, last := play(t, c, of(before, s, behind)), end(t, c, of(before, s, behind))
		if want[len(before)].Code != api.OK {
			t.Fatalf("%v comes to %v", s, want[len(before)])
		}
		for _, n := range anyNumbers {
			all := s
			for i, letter := range "wicfdlk" {
				one := s
				for _, x := range []*api.Step{&one, &all} {
					field := []*int{&x.Who, &x.Item, &x.Count, &x.Life, &x.Id, &x.Label, &x.Key}[i]
					if !slices.Contains([]rune(uses[s.Kind]), letter) {
						*field = n
					}
				}
				if got := play(t, c, of(before, one, behind)); !slices.EqualFunc(got, want, sameTold) {
					t.Fatalf("%v looks at what it does not use", one)
				}
			}
			if got := play(t, c, of(before, all, behind)); !slices.EqualFunc(got, want, sameTold) || !end(t, c, of(before, all, behind)).is(last) {
				t.Fatalf("%v looks at what it does not use", all)
			}
		}
	}
}

func TestWhatATickSends(t *testing.T) { // P12.2
	isSent := func(c api.Config, want ...api.Envelope) {
		t.Helper()
		if got := play(t, c, of(tick))[0]; !slices.Equal(got.Sent, want) || got.Code != api.OK || got.Who != 0 || got.Frame != nil {
			t.Errorf("%+v: a tick comes to %v, want %v sent", c, got, want)
		}
	}
	c := api.Config{Branches: 1, Labels: []int{1}, Ticks: 1, Minted: []int{5}, Cap: 1}
	isSent(c, api.Envelope{Id: 0, From: 0, To: 1, Size: 3}, api.Envelope{Id: 1, From: 1, To: 0, Size: 3})
	c = api.Config{Branches: 2, Labels: []int{3, 1, 2, 3}, Ticks: 1, Minted: []int{5, 6}, Cap: 1}
	isSent(c, api.Envelope{Id: 0, From: 0, To: 2, Size: 6}, api.Envelope{Id: 1, From: 0, To: 1, Size: 68},
		api.Envelope{Id: 2, From: 1, To: 2, Size: 6}, api.Envelope{Id: 3, From: 1, To: 0, Size: 68},
		api.Envelope{Id: 4, From: 2, To: 0, Size: 6}, api.Envelope{Id: 5, From: 2, To: 1, Size: 6})
	// 0 and 1 are in one label together, the others in two.
	c = api.Config{Branches: 3, Labels: []int{6, 7, 0, 5}, Ticks: 1, Minted: []int{5, 6, 7}, Cap: 1}
	isSent(c, api.Envelope{Id: 0, From: 0, To: 3, Size: 8}, api.Envelope{Id: 1, From: 0, To: 1, Size: 34}, api.Envelope{Id: 2, From: 0, To: 2, Size: 68},
		api.Envelope{Id: 3, From: 1, To: 3, Size: 8}, api.Envelope{Id: 4, From: 1, To: 0, Size: 34}, api.Envelope{Id: 5, From: 1, To: 2, Size: 68},
		api.Envelope{Id: 6, From: 2, To: 3, Size: 8}, api.Envelope{Id: 7, From: 2, To: 0, Size: 68}, api.Envelope{Id: 8, From: 2, To: 1, Size: 68},
		api.Envelope{Id: 9, From: 3, To: 0, Size: 8}, api.Envelope{Id: 10, From: 3, To: 1, Size: 8}, api.Envelope{Id: 11, From: 3, To: 2, Size: 8})
	// Where there is nothing to tell, a frame without bytes is sent.
	c = api.Config{Branches: 2, Ticks: 1, Minted: []int{5}, Cap: 1}
	isSent(c, api.Envelope{Id: 0, From: 0, To: 2, Size: 3}, api.Envelope{Id: 1, From: 0, To: 1},
		api.Envelope{Id: 2, From: 1, To: 2, Size: 3}, api.Envelope{Id: 3, From: 1, To: 0},
		api.Envelope{Id: 4, From: 2, To: 0, Size: 3}, api.Envelope{Id: 5, From: 2, To: 1, Size: 3})
}

func TestAllThatManySend(t *testing.T) { // P12.2
	for branches := 1; branches <= crowd; branches++ {
		for labels := 0; labels <= tags; labels++ {
			for items := 1; items <= things; items++ {
				c := api.Config{Branches: branches, Labels: slices.Repeat([]int{1<<branches - 1}, labels), Ticks: 3, Minted: make([]int, items), Cap: 1}
				counts := []int{0, 3, 6, 8}[items]
				var want []api.Envelope
				// The numbers go on from tick to tick.
				for k, x := range play(t, c, times(4, tick)) {
					want = want[:0]
					for from := range branches {
						want = append(want, api.Envelope{Id: askAt(c, k, from), From: from, To: branches, Size: counts})
						for to := range branches {
							if to != from {
								want = append(want, api.Envelope{Id: rumourAt(c, k, from, to), From: from, To: to, Size: 34 * labels})
							}
						}
					}
					for to := range branches {
						want = append(want, api.Envelope{Id: grantAt(c, k, to), From: branches, To: to, Size: counts})
					}
					if !slices.Equal(x.Sent, want) {
						t.Errorf("%+v: the tick %d sends %v, want %v", c, k, x.Sent, want)
					}
					for i := range want {
						if want[i].Id != k*perTick(c)+i {
							t.Fatalf("the frame %d of the tick %d has the number %d", i, k, want[i].Id)
						}
					}
				}
			}
		}
	}
}

func TestReports(t *testing.T) { // P12.2
	for ticks := 1; ticks <= epoch; ticks++ {
		c := with(plain(), func(c *api.Config) { c.Ticks = ticks })
		// 3 of the item 0 and 1 of the item 1 are given in the tick 1.
		l := of(ask(1, 0, 3), ask(2, 1, 1), tick, deliver(askAt(c, 0, 1)), deliver(askAt(c, 0, 2)), times(3*epoch, tick))
		n := -1
		for i, x := range play(t, c, l) {
			if l[i].Kind != api.Ticks {
				continue
			}
			n++
			var want []int
			switch {
			case n%ticks != 0:
			case n <= 1:
				want = []int{20, 7, 0}
			default:
				want = []int{17, 6, 0}
			}
			if !slices.Equal(x.Report, want) {
				t.Errorf("epochs of %d: the tick %d reports %v, want %v", ticks, n, x.Report, want)
			}
		}
	}
	// Of as many items as there are, each its own, and as they were ahead of what was given.
	c := api.Config{Branches: 1, Ticks: 1, Minted: []int{most}, Cap: most}
	told := play(t, c, of(ask(0, 0, most), tick, deliver(0), tick, tick))
	if !slices.Equal(told[1].Report, []int{most}) || !slices.Equal(told[3].Report, []int{most}) || !slices.Equal(told[4].Report, []int{0}) {
		t.Errorf("the reports are %v, %v and %v", told[1].Report, told[3].Report, told[4].Report)
	}
}

func TestWhatARoundGives(t *testing.T) { // P12.2
	c := plain()
	// The quotas are 4, 4 and 4 of the item 0, 3, 2 and 2 of the item 1.
	l := of(ask(0, 0, 9), ask(1, 1, 9), ask(2, 0, 1), ask(2, 1, 9), ask(1, 2, 9), tick)
	grants := func(l []api.Step, tick int) [][]byte {
		var all [][]byte
		for who := range 3 {
			all = append(all, play(t, c, of(l, deliver(grantAt(c, tick, who))))[len(l)].Frame)
		}
		return all
	}
	counts := func(a, b, c int) []byte { return record(digits(a, 21) + digits(b, 21) + digits(c, 21)) }
	is := func(got [][]byte, want ...[]byte) {
		t.Helper()
		if fmt.Sprint(got) != fmt.Sprint(want) {
			t.Errorf("%v are given, want %v", got, want)
		}
	}
	none := counts(0, 0, 0)
	// Asks that were not delivered are not known.
	is(grants(l, 0), none, none, none)
	is(grants(of(l, tick), 1), none, none, none)
	is(grants(of(l, deliver(askAt(c, 0, 0)), tick), 1), counts(4, 0, 0), none, none)
	all := of(l, deliver(askAt(c, 0, 0)), deliver(askAt(c, 0, 1)), deliver(askAt(c, 0, 2)), tick)
	is(grants(all, 1), counts(4, 0, 0), counts(0, 2, 0), counts(1, 2, 0))
	// In the same epoch there is no more, and in the next one quotas of what is left: 15 and 3.
	is(grants(of(all, tick), 2), counts(8, 0, 0), counts(0, 3, 0), counts(1, 3, 0))
	is(grants(of(all, tick, tick), 3), counts(8, 0, 0), counts(0, 3, 0), counts(1, 3, 0))
	is(grants(of(all, tick, tick, tick), 4), counts(9, 0, 0), counts(0, 3, 0), counts(1, 3, 0))
	// What was lost is not known either, what comes later is.
	is(grants(of(l, lose(askAt(c, 0, 0)), tick, tick), 2), none, none, none)
	is(grants(of(l, lose(askAt(c, 0, 0)), tick, deliver(askAt(c, 1, 0)), tick), 2), counts(4, 0, 0), none, none)
	// A frame tells what was asked when it was sent.
	is(grants(of(ask(0, 0, 1), tick, ask(0, 0, 2), deliver(askAt(c, 0, 0)), tick), 1), counts(1, 0, 0), none, none)
	is(grants(of(ask(0, 0, 1), tick, ask(0, 0, 2), tick, deliver(askAt(c, 1, 0)), tick), 2), counts(3, 0, 0), none, none)
}

func TestHoldsAndTicks(t *testing.T) { // P12.2
	c := rich()
	before := fetched(c, ask(1, 2, 10))
	for n := 1; n <= life; n++ {
		l := of(before, holding(1, 2, 4, n))
		isLast(t, c, of(l, times(n-1, tick), confirms(1, 2, 1)), api.Told{Who: 1, Stock: stock(6, 0, 4)})
		isLast(t, c, of(l, times(n-1, tick), cancels(1, 2, 1)), api.Told{Who: 1, Stock: stock(10, 0, 0)})
		isLast(t, c, of(l, times(n, tick), confirms(1, 2, 1)), api.Told{Code: api.ErrOld, Who: 1, Stock: stock(10, 0, 0)})
		isLast(t, c, of(l, times(n, tick), cancels(1, 2, 1)), api.Told{Code: api.ErrOld, Who: 1, Stock: stock(10, 0, 0)})
		// Nothing but a tick counts.
		isLast(t, c, of(l, times(n-1, tick), deliver(0), lose(1), sale(1, 2, 1), confirms(1, 2, 1)), api.Told{Who: 1, Stock: stock(5, 0, 5)})
	}
	// Each stock of each branch has the tick.
	all := of(ask(0, 0, 2), ask(0, 1, 2), ask(0, 2, 2), ask(1, 0, 2), ask(1, 1, 2), ask(1, 2, 2))
	l := fetched(c, all...)
	for who := range 2 {
		for item := range 3 {
			l = of(l, holding(who, item, 1, 1), holding(who, item, 1, 2))
		}
	}
	x := end(t, c, of(l, tick))
	for who := range 2 {
		for item := range 3 {
			if x.purses[who][item].Stock != stock(1, 1, 0) {
				t.Errorf("behind a tick %d has %v of the item %d", who, x.purses[who][item], item)
			}
		}
	}
}

func TestFramesInTheirOrderAndInAnother(t *testing.T) { // P12.3
	r := rand.New(rand.NewSource(3))
	for _, c := range []api.Config{plain(), rich(), {Branches: 1, Labels: []int{1}, Ticks: 2, Minted: []int{5}, Cap: 2}, {Branches: crowd, Labels: []int{255, 15, 240}, Ticks: 2, Minted: []int{50, 9}, Cap: 3}} {
		var before []api.Step
		for who := range c.Branches {
			before = of(before, ask(who, 0, who+1), puts(who, 0, who, 10+who), puts(who, 0, (who+1)%shelf, 20+who))
		}
		before = of(before, tick, tick)
		n := 2 * perTick(c)
		inOrder, backwards := make([]api.Step, n), make([]api.Step, n)
		for id := range n {
			inOrder[id], backwards[n-1-id] = deliver(id), deliver(id)
		}
		first := len(before)
		for id, x := range isReckoned(t, c, of(before, inOrder))[first:] {
			sent := play(t, c, before)[first-2+id/perTick(c)].Sent[id%perTick(c)]
			if x.Code != api.OK || x.Who != sent.To || len(x.Frame) != sent.Size || x.Sent != nil || x.Report != nil {
				t.Errorf("%+v: the frame %v comes to %v", c, sent, x)
			}
		}
		// Backwards, those of the first tick are old.
		for i, x := range isReckoned(t, c, of(before, backwards))[first:] {
			if want := (i >= perTick(c)); (x.Code == api.ErrOld) != want || want && x.Frame != nil {
				t.Errorf("%+v: backwards, the frame %d comes to %v", c, n-1-i, x)
			}
		}
		for range 20 {
			var l []api.Step
			for range 3 {
				for _, id := range r.Perm(n) {
					if len(before)+len(l) < deeds {
						l = append(l, []api.Step{deliver(id), deliver(id), lose(id)}[r.Intn(3)])
					}
				}
			}
			isReckoned(t, c, of(before, l))
		}
	}
}

func TestFramesThatAreOld(t *testing.T) { // P12.3
	c := plain()
	before := of(ask(0, 0, 3), puts(0, 2, 1, 9), tick, tick, tick)
	for _, at := range []func(tick int) int{
		func(tick int) int { return askAt(c, tick, 0) },
		func(tick int) int { return askAt(c, tick, 2) },
		func(tick int) int { return rumourAt(c, tick, 0, 1) },
		func(tick int) int { return rumourAt(c, tick, 2, 0) },
		func(tick int) int { return grantAt(c, tick, 0) },
		func(tick int) int { return grantAt(c, tick, 2) },
	} {
		to := play(t, c, of(before, deliver(at(0))))[len(before)].Who
		old := api.Told{Code: api.ErrOld, Who: to}
		lostToo := api.Told{Code: api.ErrOld}
		// Delivered twice; a later one ahead of it; lost; each with Who of Deliver, and without it of Lose.
		for _, l := range [][]api.Step{
			of(before, deliver(at(1))), of(before, deliver(at(2))), of(before, deliver(at(0)), deliver(at(1))), of(before, lose(at(1))),
			of(before, lose(at(2)), lose(at(1))), of(before, lose(at(1)), deliver(at(2))), of(before, deliver(at(0)), lose(at(1))),
		} {
			leavesNoTrace(t, c, l, deliver(at(1)), old)
			leavesNoTrace(t, c, l, lose(at(1)), lostToo)
		}
		// One that was lost makes none of the same way old, neither behind it nor ahead of it.
		for _, l := range [][]api.Step{of(before, lose(at(1))), of(before, lose(at(2)))} {
			if x := play(t, c, of(l, deliver(at(0))))[len(l)]; x.Code != api.OK || x.Who != to {
				t.Errorf("behind %v: the frame %d comes to %v", l, at(0), x)
			}
			isLast(t, c, of(l, lose(at(0))), api.Told{})
		}
		if x := play(t, c, of(before, lose(at(1)), deliver(at(2))))[len(before)+1]; x.Code != api.OK || x.Who != to {
			t.Errorf("behind one that was lost: the frame %d comes to %v", at(2), x)
		}
		isLast(t, c, of(before, deliver(at(0)), lose(at(1))), api.Told{})
		// Frames of other ways hang on none of it.
		for id := range 3 * perTick(c) {
			if id != at(0) && id != at(1) && id != at(2) {
				for _, l := range [][]api.Step{of(before, deliver(at(2))), of(before, lose(at(0)), lose(at(1)), lose(at(2)))} {
					if x := play(t, c, of(l, deliver(id))); x[len(l)].Code != api.OK {
						t.Errorf("behind %v the frame %d comes to %v", l, id, x[len(l)])
					}
				}
			}
		}
	}
}

func TestFramesThatThereAreNot(t *testing.T) { // P12.3
	c := plain()
	for ticks := range 4 {
		before := of(ask(0, 0, 3), times(ticks, tick))
		for _, id := range append([]int{ticks * perTick(c), ticks*perTick(c) + 1, (ticks + 1) * perTick(c)}, wild...) {
			leavesNoTrace(t, c, before, deliver(id), api.Told{Code: api.ErrNone})
			leavesNoTrace(t, c, before, lose(id), api.Told{Code: api.ErrNone})
		}
		if last := ticks*perTick(c) - 1; ticks > 0 {
			isLast(t, c, of(before, lose(last)), api.Told{})
			isLast(t, c, of(before, deliver(last)), api.Told{Who: 2, Frame: make([]byte, 8)})
		}
	}
}

func TestWhatIsLostLeavesNoTrace(t *testing.T) { // P12.3
	c := plain()
	before := of(ask(0, 0, 3), puts(0, 2, 1, 9), tick, deliver(askAt(c, 0, 0)), tick)
	for id := range 2 * perTick(c) {
		if got, want := end(t, c, of(before, lose(id))), end(t, c, before); !got.is(want) {
			t.Errorf("behind the loss of %d: %v, want %v", id, got, want)
		}
		if got, want := end(t, c, of(before, lose(id), deliver(id))), end(t, c, before); !got.is(want) {
			t.Errorf("behind the loss of %d: %v, want %v", id, got, want)
		}
	}
}

func TestAsksAtTheBroker(t *testing.T) { // P12.3
	c := with(rich(), func(c *api.Config) { c.Ticks = 1 })
	grant := func(l []api.Step) []int {
		t.Helper()
		x := end(t, c, l)
		return []int{1000 - x.reserve[0], 1000 - x.reserve[1], 1000 - x.reserve[2]}
	}
	is := func(l []api.Step, want ...int) {
		t.Helper()
		if got := grant(of(l, tick)); !slices.Equal(got, want) {
			t.Errorf("behind %v there is given %v, want %v", l, got, want)
		}
	}
	// Of each item, and no less for what another one asks.
	l := of(ask(0, 0, 5), ask(0, 2, 6), ask(1, 2, 7), tick)
	is(l, 0, 0, 0)
	is(of(l, deliver(askAt(c, 0, 0))), 5, 0, 6)
	is(of(l, deliver(askAt(c, 0, 1))), 0, 0, 7)
	is(of(l, deliver(askAt(c, 0, 1)), deliver(askAt(c, 0, 0))), 5, 0, 13)
	// More than before, the same, and one that was sent earlier.
	more := of(l, ask(0, 0, 1), ask(0, 1, 2), tick, tick)
	is(of(more, deliver(askAt(c, 0, 0)), deliver(askAt(c, 1, 0))), 6, 2, 6)
	is(of(more, deliver(askAt(c, 1, 0)), deliver(askAt(c, 2, 0))), 6, 2, 6)
	is(of(more, deliver(askAt(c, 1, 0)), deliver(askAt(c, 0, 0))), 6, 2, 6)
	is(of(more, deliver(askAt(c, 0, 0)), tick, deliver(askAt(c, 1, 0)), tick), 6, 2, 6)
	is(of(more, deliver(askAt(c, 1, 0)), tick, deliver(askAt(c, 0, 0)), tick), 6, 2, 6)
	isLast(t, c, of(l, deliver(askAt(c, 0, 1))), api.Told{Who: 2, Frame: record(digits(0, 42) + digits(7, 21))})
}

func TestAStockGainsWhatIsGivenOnce(t *testing.T) { // P12.3
	c := with(rich(), func(c *api.Config) { c.Cap = 4 })
	// 4 in each tick from the tick 1 on, till it is 10.
	l := of(ask(1, 0, 10), ask(1, 2, 3), tick, deliver(askAt(c, 0, 1)), tick, tick, tick, tick)
	is := func(zero, two int, ids ...int) {
		t.Helper()
		k := slices.Clone(l)
		for _, id := range ids {
			k = append(k, deliver(id))
		}
		x := end(t, c, k)
		want := []api.Purse{{Asked: 10, Stock: stock(zero, 0, 0)}, {}, {Asked: 3, Stock: stock(two, 0, 0)}}
		if !slices.Equal(x.purses[1], want) || !slices.Equal(x.purses[0], make([]api.Purse, 3)) {
			t.Errorf("behind the frames %v: %v", ids, x.purses)
		}
	}
	at := func(tick int) int { return grantAt(c, tick, 1) }
	is(0, 0)
	is(0, 0, at(0))
	is(4, 3, at(0), at(1))
	is(4, 3, at(1))
	is(8, 3, at(1), at(2))
	is(8, 3, at(2))
	is(8, 3, at(2), at(1), at(2), at(0))
	is(10, 3, at(1), at(2), at(3))
	is(10, 3, at(1), at(3))
	is(10, 3, at(3))
	is(10, 3, at(4))
	is(10, 3, at(3), at(4), at(4))
	is(0, 0, grantAt(c, 4, 0))
	// What was sold or is held does not matter.
	isLast(t, c, of(l, deliver(at(1)), sale(1, 0, 2), holding(1, 0, 1, 1), deliver(at(2)), sale(1, 0, 4), deliver(at(4)), sale(1, 0, 1)),
		api.Told{Who: 1, Frame: record(digits(10, 21) + digits(0, 21) + digits(3, 21))}, api.Told{Who: 1, Stock: stock(2, 1, 7)})
	isLast(t, c, of(l, lose(at(1)), lose(at(2)), lose(at(3)), deliver(at(4)), sale(1, 0, 10)), api.Told{Who: 1, Stock: stock(0, 0, 10)})
}

func TestEntriesThatABranchHearsOf(t *testing.T) { // P12.3
	c := with(plain(), func(c *api.Config) { c.Labels = []int{3, 6, 7, 5} })
	// 0 is in the labels 0, 2 and 3, 1 in 0, 1 and 2.
	l := of(puts(0, 0, 1, 10), puts(0, 2, 7, 20), puts(0, 2, 0, 21), puts(0, 3, 5, 30), puts(1, 1, 1, 40), tick)
	heard := empty(c).stores
	zero := [][]api.Entry{{entry(1, 10, 1, 0)}, nil, {entry(0, 21, 2, 0), entry(7, 20, 1, 0)}, {entry(5, 30, 1, 0)}}
	heard[0], heard[1] = zero, [][]api.Entry{nil, {entry(1, 40, 1, 1)}, nil, nil}
	is := func(l []api.Step, want [][][]api.Entry) {
		t.Helper()
		x := empty(c)
		x.stores = want
		isEnd(t, c, l, x)
	}
	is(l, heard)
	heard[1] = [][]api.Entry{zero[0], {entry(1, 40, 1, 1)}, zero[2], nil}
	is(of(l, deliver(rumourAt(c, 0, 0, 1))), heard)
	isLast(t, c, of(l, deliver(rumourAt(c, 0, 0, 1)), gets(1, 2, 7)), api.Told{Who: 1, Value: 20})
	isLast(t, c, of(l, deliver(rumourAt(c, 0, 0, 1)), gets(1, 3, 5)), api.Told{Code: api.ErrDenied, Who: 1})
	// It is told as it was when the frame was sent.
	later := of(l, puts(0, 0, 1, 11), puts(0, 0, 2, 12))
	isLast(t, c, of(later, deliver(rumourAt(c, 0, 0, 1)), gets(1, 0, 1), gets(1, 0, 2)), api.Told{Who: 1, Value: 10}, api.Told{Code: api.ErrNone, Who: 1})
	isLast(t, c, of(later, tick, deliver(rumourAt(c, 1, 0, 1)), gets(1, 0, 1), gets(1, 0, 2)), api.Told{Who: 1, Value: 11}, api.Told{Who: 1, Value: 12})
	// Newer and older ones than its own; of the same Time that of the greater Who.
	isLast(t, c, of(l, puts(1, 0, 1, 50), deliver(rumourAt(c, 0, 0, 1)), gets(1, 0, 1)), api.Told{Who: 1, Value: 50})
	isLast(t, c, of(l, puts(1, 2, 7, 50), deliver(rumourAt(c, 0, 0, 1)), gets(1, 2, 7)), api.Told{Who: 1, Value: 50})
	isLast(t, c, of(l, puts(1, 2, 0, 50), deliver(rumourAt(c, 0, 0, 1)), gets(1, 2, 0)), api.Told{Who: 1, Value: 21})
	isLast(t, c, of(l, puts(1, 2, 0, 50), tick, deliver(rumourAt(c, 1, 1, 0)), gets(0, 2, 0)), api.Told{Value: 21})
	// What is put behind it is newer than all that was heard of.
	isLast(t, c, of(l, deliver(rumourAt(c, 0, 0, 1)), puts(1, 2, 0, 51), tick, deliver(rumourAt(c, 1, 1, 0)), gets(0, 2, 0)), api.Told{Value: 51})
	// By way of another one, in the labels in which it is.
	on := of(l, deliver(rumourAt(c, 0, 0, 1)), tick, deliver(rumourAt(c, 1, 1, 2)))
	heard[2] = [][]api.Entry{nil, {entry(1, 40, 1, 1)}, zero[2], nil}
	is(on, heard)
}

func TestEndsOfPlays(t *testing.T) { // P12.4
	c := plain()
	// Steps that were all refused.
	l := of(branchSteps(-1), branchSteps(3), api.Step{}, api.Step{Kind: 12}, deliver(0), lose(0), gets(0, 0, 0), puts(0, 1, 0, 0), sale(1, 1, 1), ask(1, 1, 0))
	for i, x := range play(t, c, l) {
		if x.Code == api.OK {
			t.Fatalf("%v is done", l[i])
		}
	}
	isEnd(t, c, l, empty(c))
	// Steps of every kind.
	l = of(ask(0, 0, 3), ask(1, 0, 2), ask(1, 1, 1), ask(2, 2, 5), puts(0, 0, 6, 1), puts(2, 2, 0, 2), tick,
		deliver(askAt(c, 0, 0)), deliver(askAt(c, 0, 1)), deliver(askAt(c, 0, 2)), tick, deliver(grantAt(c, 1, 0)), deliver(rumourAt(c, 1, 0, 1)), lose(grantAt(c, 1, 1)),
		sale(0, 0, 1), holding(0, 0, 2, 4), holding(0, 0, 1, 1), cancels(0, 0, 1), holding(0, 0, 1, 1), confirms(0, 0, 2), sale(0, 0, 1), refunds(0, 0, 2), holding(0, 0, 1, 9), gets(1, 0, 6))
	isReckoned(t, c, l)
	isEnd(t, c, l, ending{
		reserve: []int{15, 6, 0},
		purses: [][]api.Purse{
			{{Asked: 3, Stock: stock(1, 1, 1)}, {}, {}},
			{{Asked: 2}, {Asked: 1}, {}},
			{{}, {}, {Asked: 5}},
		},
		stores: [][][]api.Entry{
			{{entry(6, 1, 1, 0)}, nil, nil, nil},
			{{entry(6, 1, 1, 0)}, nil, nil, nil},
			{nil, nil, {entry(0, 2, 1, 2)}, nil},
		},
	})
}

func TestNothingIsKeptFromCallToCall(t *testing.T) { // 'What holds everywhere'
	c := rich()
	l := of(fetched(c, ask(1, 0, 5)), puts(0, 0, 1, 9), sale(1, 0, 2))
	for range 3 {
		isReckoned(t, c, l)
		isRefused(t, c, times(deeds+1, ask(1, 0, 5)), api.ErrSize)
		isRefused(t, api.Config{}, l, api.ErrForm)
		isLast(t, c, of(sale(1, 0, 1), gets(0, 0, 1), deliver(0)), api.Told{Code: api.ErrLess, Who: 1}, api.Told{Code: api.ErrNone}, api.Told{Code: api.ErrNone})
		isEnd(t, c, nil, empty(c))
	}
}

// wholePlay is one that may be, or may not.
type wholePlay struct {
	c api.Config
	l []api.Step
}

func wholePlays() []wholePlay {
	r := rand.New(rand.NewSource(4))
	var plays []wholePlay
	for _, l := range [][]api.Step{nil, {}, {{}}, allDo(plain(), nil), times(deeds+1, tick)} {
		plays = append(plays, wholePlay{plain(), l}, wholePlay{rich(), l}, wholePlay{api.Config{}, l}, wholePlay{with(plain(), func(c *api.Config) { c.Labels[1] = 8 }), l})
	}
	for range 60 {
		c := anyConfig(r)
		plays = append(plays, wholePlay{c, anyPlay(r, c, r.Intn(60))})
	}
	return plays
}

// roomy lays a list where there is room behind it that is not empty; all is the list with that room.
func roomy[T any](l []T, with T) (list, all []T) {
	all = append(slices.Clone(l), slices.Repeat([]T{with}, 8)...)
	return all[:len(l)], all
}

// handed is a play whose lists have room behind them.
type handed struct {
	wholePlay
	labels, minted []int
	steps          []api.Step
}

func handedIn(p wholePlay) handed {
	h := handed{wholePlay: p}
	h.c.Labels, h.labels = roomy(p.c.Labels, 77)
	h.c.Minted, h.minted = roomy(p.c.Minted, 78)
	h.l, h.steps = roomy(p.l, api.Step{Kind: 71, Who: 72, Item: 73, Count: 74, Life: 75, Id: 76, Label: 77, Key: 78})
	return h
}

func (h handed) String() string { return fmt.Sprint(h.c, h.labels, h.minted, h.steps) }

func TestListsAndTheRoomBehindThemAreLeft(t *testing.T) { // 'What holds everywhere'
	for _, p := range wholePlays() {
		h := handedIn(p)
		want := h.String()
		world.Play(h.c, h.l)
		world.End(h.c, h.l)
		if h.String() != want {
			t.Errorf("%v of %v", h, want)
		}
	}
}

// spoil writes over a list and the room behind it.
func spoil[T any](l []T, with T) {
	l = l[:cap(l)]
	for i := range l {
		l[i] = with
	}
}

func TestWhatIsHandedInIsNotKept(t *testing.T) { // 'What holds everywhere'
	for _, p := range wholePlays() {
		h := handedIn(p)
		told, _ := world.Play(h.c, h.l)
		reserve, purses, stores, _ := world.End(h.c, h.l)
		want := fmt.Sprint(told, reserve, purses, stores)
		spoil(h.labels, -9)
		spoil(h.minted, -9)
		spoil(h.steps, api.Step{Kind: -9})
		if fmt.Sprint(told, reserve, purses, stores) != want {
			t.Errorf("%v: what was handed in is kept", p)
		}
	}
}

// spoilTold writes over all lists of an answer, from within outwards.
func spoilTold(told []api.Told) {
	for _, x := range told {
		spoil(x.Sent, api.Envelope{Id: -9})
		spoil(x.Frame, 99)
		spoil(x.Report, -9)
	}
	spoil(told, api.Told{Code: -9})
}

func spoilEnd(reserve []int, purses [][]api.Purse, stores [][][]api.Entry) {
	spoil(reserve, -9)
	for _, l := range purses {
		spoil(l, api.Purse{Asked: -9})
	}
	spoil(purses, []api.Purse{{Asked: -9}})
	for _, b := range stores {
		for _, l := range b {
			spoil(l, entry(-9, -9, -9, -9))
		}
		spoil(b, []api.Entry{entry(-9, -9, -9, -9)})
	}
	spoil(stores, [][]api.Entry{{entry(-9, -9, -9, -9)}})
}

func TestAnswersAreNewMemory(t *testing.T) { // 'What holds everywhere'
	for _, p := range wholePlays() {
		h := handedIn(p)
		in := h.String()
		told, _ := world.Play(h.c, h.l)
		told2, _ := world.Play(h.c, h.l)
		reserve, purses, stores, _ := world.End(h.c, h.l)
		reserve2, purses2, stores2, _ := world.End(h.c, h.l)
		want := fmt.Sprint(told2, reserve2, purses2, stores2)
		spoilTold(told)
		spoilEnd(reserve, purses, stores)
		if h.String() != in || fmt.Sprint(told2, reserve2, purses2, stores2) != want {
			t.Errorf("%v: a change of one answer is seen elsewhere", p)
		}
	}
}

// areApart writes something else over each list and the room behind it.
func areApart[T comparable](t *testing.T, what string, lists [][]T, with func(i int) T) {
	t.Helper()
	for i, l := range lists {
		spoil(l, with(i))
	}
	for i, l := range lists {
		for _, x := range l[:cap(l)] {
			if x != with(i) {
				t.Fatalf("%s: two lists share memory", what)
			}
		}
	}
}

func TestNoTwoListsOfOneAnswerShareAny(t *testing.T) { // 'What holds everywhere'
	for _, p := range wholePlays() {
		told, _ := world.Play(p.c, p.l)
		reserve, purses, stores, _ := world.End(p.c, p.l)
		var sent [][]api.Envelope
		var frames [][]byte
		counts := [][]int{reserve}
		for _, x := range told {
			sent, frames, counts = append(sent, x.Sent), append(frames, x.Frame), append(counts, x.Report)
		}
		areApart(t, "Sent", sent, func(i int) api.Envelope { return api.Envelope{Id: -9 - i} })
		areApart(t, "Frame", frames, func(i int) byte { return byte(i) })
		areApart(t, "Report", counts, func(i int) int { return -9 - i })
		areApart(t, "purses", purses, func(i int) api.Purse { return api.Purse{Asked: -9 - i} })
		var entries [][]api.Entry
		for _, b := range stores {
			entries = append(entries, b...)
		}
		areApart(t, "stores", entries, func(i int) api.Entry { return entry(-9-i, 0, 0, 0) })
		for i, b := range stores {
			spoil(b, []api.Entry{entry(i, 0, 0, 0)})
		}
		for i, b := range stores {
			for _, l := range b[:cap(b)] {
				if len(l) != 1 || l[0].Key != i {
					t.Fatalf("%v: the lists of %d are shared", p, i)
				}
			}
		}
	}
}

// Example: as README.md tells it.
func Example() {
	c := api.Config{Branches: 2, Labels: []int{3}, Ticks: 2, Minted: []int{5}, Cap: 2}
	l := []api.Step{
		{Kind: api.AskFor, Who: 1, Item: 0, Count: 3},
		{Kind: api.Puts, Who: 0, Label: 0, Key: 2, Count: 9},
		{Kind: api.Ticks},
		{Kind: api.Deliver, Id: 2},
		{Kind: api.Deliver, Id: 1},
		{Kind: api.Gets, Who: 1, Label: 0, Key: 2},
		{Kind: api.Ticks},
		{Kind: api.Lose, Id: 5},
		{Kind: api.Deliver, Id: 11},
		{Kind: api.Sale, Who: 1, Item: 0, Count: 1},
		{Kind: api.Sale, Who: 1, Item: 0, Count: 2},
	}
	told, _ := world.Play(c, l)
	fmt.Println(told[2].Sent)
	fmt.Println(told[2].Report)
	fmt.Println(told[3].Who, told[3].Frame)
	fmt.Println(told[5].Value)
	fmt.Println(told[8].Who, told[8].Frame)
	fmt.Println(told[9].Stock)
	fmt.Println(told[10].Code)
	reserve, purses, stores, _ := world.End(c, l)
	fmt.Println(reserve)
	fmt.Println(purses)
	fmt.Println(stores)
	// Output:
	// [{0 0 2 3} {1 0 1 34} {2 1 2 3} {3 1 0 34} {4 2 0 3} {5 2 1 3}]
	// [5]
	// 2 [0 0 24]
	// 9
	// 1 [0 0 16]
	// {0 0 1 0 1}
	// 9
	// [3]
	// [[{0 {0 0 0 0 0}}] [{3 {0 0 1 0 1}}]]
	// [[[{2 9 1 0 false}]] [[{2 9 1 0 false}]]]
}
