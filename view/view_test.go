package view_test

import (
	"bytes"
	"fmt"
	"math"
	"math/rand"
	"slices"
	"testing"

	"splittally/api"
	"splittally/view"
	"splittally/world"
)

// The limits, written out: MaxCount, MaxBranches, MaxLabels, MaxTicks, MaxItems and MaxDeeds.
const (
	most   = 1048576
	crowd  = 8
	tags   = 4
	epoch  = 8
	things = 3
	deeds  = 300
)

// below are less than any number that may be anywhere.
var below = []int{-1, -2, -8, -255, -256, -most, -1 << 32, math.MinInt, math.MinInt + 1}

// above are greater than any number that may be anywhere, and some of them wrap round to such as may be.
var above = []int{most + 1, most + 2, 2 * most, 1<<32 - 1, 1 << 32, 1<<32 + 1, 1<<32 + 3, 1 << 62, math.MaxInt - 1, math.MaxInt}

var wild = slices.Concat(below, above)

// anyNumbers are wild ones, and such as may be somewhere.
var anyNumbers = append([]int{0, 1, 2, 3, 4, 5, 7, 8, 9, 20, 63, 64, 65, 254, 255, 256, 257, most - 1, most}, wild...)

// plain is of 0, 1 and 2: the label 0 is of 0 and 1, 1 of 1 and 2, 2 of all, 3 of nobody.
func plain() api.Config {
	return api.Config{Branches: 3, Labels: []int{3, 6, 7, 0}, Ticks: 2, Minted: []int{20, 7, 0}, Cap: 4}
}

// with is a config that is changed in some way.
func with(c api.Config, change func(c *api.Config)) api.Config {
	c.Labels, c.Minted = slices.Clone(c.Labels), slices.Clone(c.Minted)
	change(&c)
	return c
}

// among is a config of so many branches.
func among(branches int) api.Config {
	return api.Config{Branches: branches, Labels: []int{1<<branches - 1, 1, 0}, Ticks: 2, Minted: []int{20, 7}, Cap: 4}
}

// full is a thing told in which nothing is zero but, maybe, Who.
func full(who int) api.Told {
	return api.Told{
		Code:   api.ErrLess,
		Who:    who,
		Stock:  api.Stock{Code: 21, Id: 22, Free: 23, Held: 24, Used: 25},
		Value:  26,
		Sent:   []api.Envelope{{Id: 27, From: 28, To: 29, Size: 30}, {Id: 31, From: 32, To: 33, Size: 34}},
		Frame:  []byte{35, 36, 37},
		Report: []int{38, 39},
	}
}

// hidden is what all but Who see of full.
func hidden(who int) api.Told {
	return api.Told{
		Who:    who,
		Sent:   []api.Envelope{{Id: 27, From: 28, To: 29, Size: 30}, {Id: 31, From: 32, To: 33, Size: 34}},
		Report: []int{38, 39},
	}
}

func many(l ...api.Told) []api.Told { return l }

func sameTold(a, b api.Told) bool {
	return a.Code == b.Code && a.Who == b.Who && a.Stock == b.Stock && a.Value == b.Value &&
		slices.Equal(a.Sent, b.Sent) && bytes.Equal(a.Frame, b.Frame) && slices.Equal(a.Report, b.Report)
}

// isOf compares the answer; of an error there is nothing told to want.
func isOf(t *testing.T, c api.Config, told []api.Told, some int, want []api.Told, code api.Errno) {
	t.Helper()
	if got, e := view.Of(c, told, some); !slices.EqualFunc(got, want, sameTold) || e != code {
		t.Errorf("Of(%+v, %v, %b): %v %d, want %v %d", c, told, some, got, e, want, code)
	}
}

// isIn asks for a bit of a label, and answers false of all numbers that are no branch.
func isIn(label, who int) bool {
	for k := range crowd {
		if k == who {
			return label/(1<<k)%2 == 1
		}
	}
	return false
}

// reckoned is what some should see: what is not theirs is taken out of a whole thing told.
func reckoned(told []api.Told, some int) []api.Told {
	l := slices.Clone(told)
	for i := range l {
		if !isIn(some, l[i].Who) {
			l[i].Code, l[i].Stock, l[i].Value, l[i].Frame = 0, api.Stock{}, 0, nil
		}
	}
	return l
}

func isReckoned(t *testing.T, c api.Config, told []api.Told, some int) {
	t.Helper()
	isOf(t, c, told, some, reckoned(told, some), api.OK)
}

func TestSomeWrittenOut(t *testing.T) { // P13.1
	told := many(
		api.Told{Who: 0, Value: 9},
		api.Told{Who: 1, Stock: api.Stock{Id: 1, Free: 2, Held: 3, Used: 4}},
		api.Told{Code: api.ErrDenied, Who: 2},
		api.Told{Sent: []api.Envelope{{Id: 0, From: 0, To: 3, Size: 8}, {Id: 1, From: 0, To: 1, Size: 68}}, Report: []int{20, 7, 0}},
		api.Told{Who: 1, Frame: []byte{0, 0, 32}},
		api.Told{Who: 3, Frame: []byte{0, 0, 40}},
		api.Told{Code: api.ErrOld, Who: 3},
		api.Told{Code: api.ErrNone},
	)
	none := slices.Clone(told)
	none[0], none[1], none[2], none[4], none[5], none[6], none[7] = api.Told{}, api.Told{Who: 1}, api.Told{Who: 2}, api.Told{Who: 1}, api.Told{Who: 3}, api.Told{Who: 3}, api.Told{}
	isOf(t, plain(), told, 0, none, api.OK)
	first := slices.Clone(none)
	first[0], first[7] = told[0], told[7]
	isOf(t, plain(), told, 1, first, api.OK)
	second := slices.Clone(none)
	second[1], second[4] = told[1], told[4]
	isOf(t, plain(), told, 2, second, api.OK)
	third := slices.Clone(none)
	third[2] = told[2]
	isOf(t, plain(), told, 4, third, api.OK)
	ends := slices.Clone(first)
	ends[2] = told[2]
	isOf(t, plain(), told, 5, ends, api.OK)
	all := slices.Clone(told)
	all[5], all[6] = api.Told{Who: 3}, api.Told{Who: 3}
	isOf(t, plain(), told, 7, all, api.OK)
}

func TestNothingIsTold(t *testing.T) { // P13.1
	for branches := 1; branches <= crowd; branches++ {
		for some := range 1 << branches {
			isOf(t, among(branches), nil, some, nil, api.OK)
			isOf(t, among(branches), []api.Told{}, some, nil, api.OK)
		}
	}
}

func TestThingsThatAreZero(t *testing.T) { // P13.1
	for some := range 1 << 3 {
		for n := 1; n < 5; n++ {
			isOf(t, plain(), make([]api.Told, n), some, make([]api.Told, n), api.OK)
		}
	}
}

func TestEachBranchOfEachSome(t *testing.T) { // P13.1: nobody, one, several, all; the first and the last one; the broker
	for branches := 1; branches <= crowd; branches++ {
		for some := range 1 << branches {
			for who := -2; who <= 2*crowd; who++ {
				want := hidden(who)
				if isIn(some, who) {
					want = full(who)
				}
				isOf(t, among(branches), many(full(who)), some, many(want), api.OK)
			}
		}
	}
}

func TestTheBrokerIsNoneOfThem(t *testing.T) { // P13.1
	for branches := 1; branches <= crowd; branches++ {
		for some := range 1 << branches {
			isOf(t, among(branches), many(full(branches), full(branches)), some, many(hidden(branches), hidden(branches)), api.OK)
		}
	}
}

func TestNobodyIsOneOfNone(t *testing.T) { // P13.1
	for branches := 1; branches <= crowd; branches++ {
		for who := range branches {
			isOf(t, among(branches), many(full(who)), 0, many(hidden(who)), api.OK)
		}
	}
}

func TestWhoIsNoBranchAtAll(t *testing.T) { // P13.1: below 0, above the broker's, the greatest and the least numbers
	var numbers []int
	for k := range crowd {
		// Bits of them, and places beside them, are those of branches.
		numbers = append(numbers, -k-1, k+8, k+16, k+32, k+64, k+128, k+256, k+1<<16, k+1<<31, k+1<<32, k-1<<32, k-64, k-256, math.MinInt+k, math.MaxInt-k)
	}
	for branches := 1; branches <= crowd; branches++ {
		for some := range 1 << branches {
			for _, who := range append(numbers, wild...) {
				if who < branches && who >= 0 {
					continue
				}
				isOf(t, among(branches), many(full(who)), some, many(hidden(who)), api.OK)
			}
		}
	}
}

// parts are things told with one thing in them, the same but for Who: those that Who alone sees, and those that anyone sees.
func parts(n int) (secret, open []api.Told) {
	secret = many(
		api.Told{Code: api.Errno(n)},
		api.Told{Stock: api.Stock{Code: api.Errno(n)}},
		api.Told{Stock: api.Stock{Id: n}},
		api.Told{Stock: api.Stock{Free: n}},
		api.Told{Stock: api.Stock{Held: n}},
		api.Told{Stock: api.Stock{Used: n}},
		api.Told{Value: n},
		api.Told{Frame: []byte{byte(n)}},
	)
	open = many(
		api.Told{Sent: []api.Envelope{{Id: n}}},
		api.Told{Sent: []api.Envelope{{From: n}}},
		api.Told{Sent: []api.Envelope{{To: n}}},
		api.Told{Sent: []api.Envelope{{Size: n}}},
		api.Told{Report: []int{n}},
	)
	return secret, open
}

func TestEachPartByItself(t *testing.T) { // P13.1
	for _, n := range append([]int{6, 12, 13}, anyNumbers...) {
		secret, open := parts(n)
		for who := -1; who <= 4; who++ {
			for some := range 1 << 3 {
				for _, x := range secret {
					x.Who = who
					want := api.Told{Who: who}
					if isIn(some, who) {
						want = x
					}
					isOf(t, plain(), many(x), some, many(want), api.OK)
				}
				for _, x := range open {
					x.Who = who
					isOf(t, plain(), many(x), some, many(x), api.OK)
				}
			}
		}
	}
}

func TestEachCodeIsSeenByWhoAlone(t *testing.T) { // P13.1
	for code := api.OK; code <= api.ErrOver; code++ {
		for who := range 3 {
			for some := range 1 << 3 {
				want := api.Told{Who: who}
				if isIn(some, who) {
					want.Code = code
				}
				isOf(t, plain(), many(api.Told{Code: code, Who: who}), some, many(want), api.OK)
			}
		}
	}
}

func TestListsByHowLongTheyAre(t *testing.T) { // P13.1: without elements, nil and not nil, with one, with several
	lengths := []int{-1, 0, 1, 2, 3, 72, 1000}
	for _, sent := range lengths {
		for _, bytes := range lengths {
			for _, report := range lengths {
				x := full(1)
				x.Sent, x.Frame, x.Report = nil, nil, nil
				if sent >= 0 {
					x.Sent = make([]api.Envelope, sent)
				}
				if bytes >= 0 {
					x.Frame = make([]byte, bytes)
				}
				if report >= 0 {
					x.Report = make([]int, report)
				}
				for i := range x.Sent {
					x.Sent[i] = api.Envelope{Id: i, From: -i, To: i + 1, Size: 5 * i}
				}
				for i := range x.Frame {
					x.Frame[i] = byte(7 * i)
				}
				for i := range x.Report {
					x.Report[i] = most - i
				}
				isOf(t, plain(), many(x), 2, many(x), api.OK)
				isOf(t, plain(), many(x), 5, many(api.Told{Who: 1, Sent: x.Sent, Report: x.Report}), api.OK)
			}
		}
	}
}

func TestOneByOne(t *testing.T) { // P13.1: each thing in its place, whatever is ahead of it or behind it
	for some := range 1 << 3 {
		for a := range 4 {
			for b := range 4 {
				for d := range 4 {
					told := many(full(a), full(b), full(d))
					for i := range told {
						told[i].Value, told[i].Code, told[i].Frame[0], told[i].Report[0], told[i].Sent[0].Id = i+1, api.Errno(i+2), byte(i+3), i+4, i+5
					}
					isReckoned(t, plain(), told, some)
				}
			}
		}
	}
}

func TestAnyNumberOfThings(t *testing.T) { // P13.1: also more than a world has steps
	for _, n := range []int{1, 2, 255, 256, 257, deeds - 1, deeds, deeds + 1, deeds + 2, 2 * deeds, 65535, 65536, 65537, 200000} {
		told := make([]api.Told, n)
		for i := range told {
			told[i] = api.Told{Code: api.Errno(i), Who: i % 5, Value: i, Frame: []byte{byte(i)}}
		}
		for _, some := range []int{0, 2, 7} {
			isReckoned(t, plain(), told, some)
		}
	}
}

// chance is a thing told such as no world comes to.
func chance(r *rand.Rand) api.Told {
	n := func() int { return anyNumbers[r.Intn(len(anyNumbers))] }
	x := api.Told{Code: api.Errno(n()), Who: r.Intn(crowd + 2), Stock: api.Stock{Code: api.Errno(n()), Id: n(), Free: n(), Held: n(), Used: n()}, Value: n()}
	if r.Intn(3) == 0 {
		x.Who = n()
	}
	for range r.Intn(4) {
		x.Sent = append(x.Sent, api.Envelope{Id: n(), From: n(), To: n(), Size: n()})
	}
	for range r.Intn(4) {
		x.Frame = append(x.Frame, byte(n()))
	}
	for range r.Intn(4) {
		x.Report = append(x.Report, n())
	}
	return x
}

func chances(r *rand.Rand, n int) []api.Told {
	l := make([]api.Told, n)
	for i := range l {
		l[i] = chance(r)
	}
	return l
}

func TestThingsThatNoWorldComesTo(t *testing.T) { // P13.1
	r := rand.New(rand.NewSource(1))
	for range 5000 {
		branches := 1 + r.Intn(crowd)
		isReckoned(t, among(branches), chances(r, r.Intn(12)), r.Intn(1<<branches))
	}
}

func TestTheRestOfAConfigDoesNotMatter(t *testing.T) { // P13.1
	r := rand.New(rand.NewSource(2))
	for branches := 1; branches <= crowd; branches++ {
		everyone := 1<<branches - 1
		for _, c := range []api.Config{
			{Branches: branches, Ticks: 1, Minted: []int{0}},
			{Branches: branches, Labels: []int{}, Ticks: epoch, Minted: []int{most, most, most}, Cap: most},
			{Branches: branches, Labels: []int{0, 0, 0, 0}, Ticks: 3, Minted: []int{1, 0}, Cap: 1},
			{Branches: branches, Labels: []int{everyone, everyone, 1, everyone}, Ticks: epoch, Minted: []int{9, 9, 9}, Cap: 9},
		} {
			told := chances(r, 20)
			for some := range 1 << branches {
				isReckoned(t, c, told, some)
			}
		}
	}
}

// wrongConfigs are plain but for one thing, below or above what may be, and some of more than one.
func wrongConfigs() []api.Config {
	var l []api.Config
	add := func(change func(c *api.Config)) { l = append(l, with(plain(), change)) }
	for _, n := range append([]int{0, crowd + 1, 64}, wild...) {
		add(func(c *api.Config) { c.Branches = n })
		add(func(c *api.Config) { c.Branches, c.Labels = n, nil })
	}
	for _, n := range append([]int{8, 15, 256}, wild...) {
		for place := range tags {
			add(func(c *api.Config) { c.Labels[place] = n })
		}
	}
	for _, n := range append([]int{0, epoch + 1}, wild...) {
		add(func(c *api.Config) { c.Ticks = n })
	}
	for _, n := range wild {
		for place := range things {
			add(func(c *api.Config) { c.Minted[place] = n })
		}
		add(func(c *api.Config) { c.Cap = n })
		add(func(c *api.Config) { c.Branches, c.Ticks, c.Cap, c.Labels, c.Minted = n, n, n, []int{n}, []int{n} })
	}
	add(func(c *api.Config) { c.Labels = make([]int, tags+1) })
	add(func(c *api.Config) { c.Minted = nil })
	add(func(c *api.Config) { c.Minted = []int{} })
	add(func(c *api.Config) { c.Minted = make([]int, things+1) })
	return append(l, api.Config{})
}

func TestAConfigThatMayNotBe(t *testing.T) { // P13.1: ErrForm ahead of ErrRange
	for _, c := range wrongConfigs() {
		for _, told := range [][]api.Told{nil, {}, {{}}, {full(0), full(1), full(3)}, make([]api.Told, deeds+1)} {
			for _, some := range append([]int{0, 1, 2, 7, 8, 15, 128, 255, 256, 257}, wild...) {
				isOf(t, c, told, some, nil, api.ErrForm)
			}
		}
	}
}

// isRefused compares the answers to some that may not be, whatever is told.
func isRefused(t *testing.T, c api.Config, some int) {
	t.Helper()
	for _, told := range [][]api.Told{nil, {}, {{}}, {full(0), full(1), full(c.Branches)}, {full(some)}} {
		isOf(t, c, told, some, nil, api.ErrRange)
	}
}

func TestSomeThatAreNoLabel(t *testing.T) { // P13.1: ErrRange
	for branches := 1; branches <= crowd; branches++ {
		for _, some := range append([]int{256, 257, 511, 512, most, 1<<32 | 1, 1 << 63 >> 1, -1 << branches}, wild...) {
			isRefused(t, among(branches), some)
		}
		for k := range 64 {
			if k >= crowd {
				isRefused(t, among(branches), 1<<k)
				isRefused(t, among(branches), 1<<k|1)
				isRefused(t, among(branches), 1<<k|(1<<branches-1))
			}
		}
		for k := range 1 << crowd {
			isRefused(t, among(branches), math.MinInt+k)
			isRefused(t, among(branches), -1-k)
		}
	}
}

func TestSomeWithABranchThatThereIsNot(t *testing.T) { // P13.1: ErrRange
	for branches := 1; branches < crowd; branches++ {
		for some := 1 << branches; some < 1<<crowd; some++ {
			isRefused(t, among(branches), some)
		}
	}
}

// Of a world: steps of every kind, done and refused.
func allKinds(c api.Config) []api.Step {
	var l []api.Step
	for who := -1; who <= c.Branches; who++ {
		for item := range c.Minted {
			l = append(l, api.Step{Kind: api.AskFor, Who: who, Item: item, Count: who + 2})
		}
		for label := range c.Labels {
			l = append(l, api.Step{Kind: api.Puts, Who: who, Label: label, Key: who + 1, Count: 10 + who})
		}
	}
	l = append(l, api.Step{Kind: api.Ticks}, api.Step{Kind: api.Lose, Id: 1}, api.Step{Kind: api.Lose, Id: 1}, api.Step{Kind: api.Deliver, Id: 1}, api.Step{Kind: api.Lose, Id: -1})
	perTick := c.Branches * (c.Branches + 1)
	for id := range min(perTick, 60) {
		l = append(l, api.Step{Kind: api.Deliver, Id: id})
	}
	l = append(l, api.Step{Kind: api.Ticks}, api.Step{Kind: 0, Who: 1}, api.Step{Kind: 12})
	for id := perTick + c.Branches*c.Branches; id <= 2*perTick; id++ {
		l = append(l, api.Step{Kind: api.Deliver, Id: id})
	}
	for who := range c.Branches {
		l = append(l, api.Step{Kind: api.Sale, Who: who, Count: 99})
		for _, kind := range []int{api.Sale, api.Refunds, api.Holding, api.Confirms, api.Holding, api.Cancels, api.Cancels} {
			l = append(l, api.Step{Kind: kind, Who: who, Count: 1, Life: 3, Id: 1 + kind/api.Cancels})
		}
		for label := range min(len(c.Labels), 2) {
			l = append(l, api.Step{Kind: api.Gets, Who: who, Label: label, Key: 1})
		}
	}
	return append(l, api.Step{Kind: api.Ticks})
}

func TestWhatSomeSeeOfAWorld(t *testing.T) { // P13.1, of P12.1
	kinds, codes := map[int]bool{}, map[api.Errno]bool{}
	for branches := 1; branches <= crowd; branches++ {
		c := among(branches)
		l := allKinds(c)
		told, code := world.Play(c, l)
		if code != api.OK || len(told) != len(l) {
			t.Fatalf("Play of %d steps: %d answers and %d", len(l), len(told), code)
		}
		for i, s := range l {
			kinds[s.Kind], codes[told[i].Code] = true, true
		}
		for some := range 1 << branches {
			isReckoned(t, c, told, some)
			seesOwnAlone(t, c, l, told, some)
		}
	}
	for kind := api.AskFor; kind <= api.Lose; kind++ {
		if !kinds[kind] {
			t.Errorf("no step is of the kind %d", kind)
		}
	}
	for _, code := range []api.Errno{api.OK, api.ErrRange, api.ErrKind, api.ErrNone, api.ErrLess, api.ErrOld, api.ErrDenied} {
		if !codes[code] {
			t.Errorf("no step comes to %d", code)
		}
	}
}

// seesOwnAlone looks at a view by the steps: envelopes and reports of each tick, and of the steps of others nothing.
func seesOwnAlone(t *testing.T, c api.Config, l []api.Step, told []api.Told, some int) {
	t.Helper()
	seen, _ := view.Of(c, told, some)
	for i, s := range l {
		x := seen[i]
		switch {
		case s.Kind == api.Ticks:
			if len(x.Sent) != c.Branches*(c.Branches+1) || !slices.Equal(x.Report, told[i].Report) {
				t.Fatalf("%b see of a tick %v", some, x)
			}
		case s.Kind >= api.AskFor && s.Kind <= api.Gets && s.Who >= 0 && s.Who < c.Branches && !isIn(some, s.Who):
			if !sameTold(x, api.Told{Who: s.Who}) {
				t.Fatalf("%b see of %v, which is not theirs, %v", some, s, x)
			}
		case s.Kind == api.Deliver && told[i].Code == api.OK && !isIn(some, told[i].Who):
			if len(x.Frame) != 0 || x.Who != told[i].Who {
				t.Fatalf("%b see of %v, which is not for them, %v", some, s, x)
			}
		case s.Kind == api.Deliver && told[i].Code == api.OK:
			if !bytes.Equal(x.Frame, told[i].Frame) {
				t.Fatalf("%b see of %v, which is for them, %v", some, s, x)
			}
		}
	}
}

// otherwise are steps that differ in what those that are not some do by themselves: with their stocks, and with notes that some may not read.
func otherwise(r *rand.Rand, c api.Config, l []api.Step, some int) []api.Step {
	l = slices.Clone(l)
	for i := range l {
		s := &l[i]
		if isIn(some, s.Who) || s.Who < 0 || s.Who >= c.Branches {
			continue
		}
		switch {
		case s.Kind >= api.Sale && s.Kind <= api.Refunds:
			s.Kind, s.Item, s.Count, s.Life, s.Id = api.Sale+r.Intn(5), r.Intn(len(c.Minted)), 1+r.Intn(3), 1+r.Intn(3), 1+r.Intn(2)
		case s.Kind == api.Puts && c.Labels[s.Label]&some == 0:
			s.Key, s.Count = r.Intn(8), r.Intn(256)
		case s.Kind == api.Gets:
			s.Label, s.Key = r.Intn(len(c.Labels)), r.Intn(8)
		}
	}
	return l
}

func TestSecretsAreNotSeen(t *testing.T) { // P13.1, and DOC.md: what some learn is what reports and labels tell, and nothing else
	r := rand.New(rand.NewSource(3))
	differ := 0
	for branches := 2; branches <= crowd; branches++ {
		for range 40 {
			some := r.Intn(1<<branches - 1)
			c := with(among(branches), func(c *api.Config) {
				c.Labels = []int{1<<branches - 1, 1<<branches - 1 - some, 1 << r.Intn(branches), r.Intn(1 << branches)}
			})
			l := allKinds(c)
			one, _ := world.Play(c, l)
			other, _ := world.Play(c, otherwise(r, c, l, some))
			if !slices.EqualFunc(one, other, sameTold) {
				differ++
			}
			seen, _ := view.Of(c, one, some)
			isOf(t, c, other, some, seen, api.OK)
		}
	}
	if differ < 200 {
		t.Errorf("only %d plays differ", differ)
	}
}

func TestNothingIsKeptFromCallToCall(t *testing.T) { // 'What holds everywhere'
	told := many(full(0), full(1), full(2), full(3))
	for range 3 {
		isReckoned(t, plain(), told, 5)
		isOf(t, plain(), told, 8, nil, api.ErrRange)
		isReckoned(t, plain(), told, 2)
		isOf(t, api.Config{}, told, 2, nil, api.ErrForm)
		isReckoned(t, plain(), told[1:2], 0)
	}
}

// roomy lays a list where there is room behind it that is not empty; all is the list with that room.
func roomy[T any](l []T, with T) (list, all []T) {
	all = append(slices.Clone(l), slices.Repeat([]T{with}, 8)...)
	return all[:len(l)], all
}

// handed is a config and things told, whose lists have room behind them.
type handed struct {
	c              api.Config
	told           []api.Told
	labels, minted []int
	all            []api.Told
	sent           [][]api.Envelope
	frames         [][]byte
	reports        [][]int
}

func handedIn(c api.Config, told []api.Told) *handed {
	h := &handed{c: c}
	h.c.Labels, h.labels = roomy(c.Labels, 77)
	h.c.Minted, h.minted = roomy(c.Minted, 78)
	h.told, h.all = roomy(told, full(79))
	for i := range h.told {
		x := &h.told[i]
		sent, all := roomy(x.Sent, api.Envelope{Id: 80, From: 81, To: 82, Size: 83})
		frame, bytes := roomy(x.Frame, 84)
		report, counts := roomy(x.Report, 85)
		x.Sent, x.Frame, x.Report = sent, frame, report
		h.sent, h.frames, h.reports = append(h.sent, all), append(h.frames, bytes), append(h.reports, counts)
	}
	return h
}

func (h *handed) String() string {
	return fmt.Sprint(h.c, h.told, h.labels, h.minted, h.all, h.sent, h.frames, h.reports)
}

// spoil writes over all that was handed in, from within outwards.
func (h *handed) spoil() {
	spoilTold(h.all)
	spoil(h.labels, -9)
	spoil(h.minted, -9)
}

// spoil writes over a list and the room behind it.
func spoil[T any](l []T, with T) {
	l = l[:cap(l)]
	for i := range l {
		l[i] = with
	}
}

func spoilTold(told []api.Told) {
	for _, x := range told[:cap(told)] {
		spoil(x.Sent, api.Envelope{Id: -9, From: -9, To: -9, Size: -9})
		spoil(x.Frame, 99)
		spoil(x.Report, -9)
	}
	spoil(told, api.Told{Code: -9, Who: -9, Value: -9})
}

// samples are things told of each Who, with lists of each length.
func samples() [][]api.Told {
	var long []api.Told
	for n := range 40 {
		x := full(n % 5)
		x.Sent, x.Frame, x.Report = make([]api.Envelope, n%7), make([]byte, n), make([]int, n%4)
		long = append(long, x)
	}
	empty := many(
		api.Told{Who: 1, Sent: []api.Envelope{}, Frame: []byte{}, Report: []int{}},
		api.Told{Who: 2, Sent: []api.Envelope{}, Frame: []byte{}, Report: []int{}},
	)
	played, _ := world.Play(plain(), allKinds(plain()))
	return [][]api.Told{nil, {}, {{}}, empty, {full(0), full(1), full(2), full(3)}, long, played}
}

func TestListsAndTheRoomBehindThemAreLeft(t *testing.T) { // 'What holds everywhere'
	for _, told := range samples() {
		for some := -1; some <= 8; some++ {
			h := handedIn(plain(), told)
			want := h.String()
			view.Of(h.c, h.told, some)
			view.Of(with(h.c, func(c *api.Config) { c.Ticks = 0 }), h.told, some)
			if h.String() != want {
				t.Errorf("%v of %v", h, want)
			}
		}
	}
}

func TestWhatIsHandedInIsNotKept(t *testing.T) { // 'What holds everywhere'
	for _, told := range samples() {
		for some := range 8 {
			h := handedIn(plain(), told)
			seen, _ := view.Of(h.c, h.told, some)
			want := fmt.Sprint(seen)
			h.spoil()
			if fmt.Sprint(seen) != want {
				t.Errorf("%v seen by %b: what was handed in is kept", told, some)
			}
		}
	}
}

func TestAnswersAreNewMemory(t *testing.T) { // 'What holds everywhere'
	for _, told := range samples() {
		for some := range 8 {
			h := handedIn(plain(), told)
			in := h.String()
			one, _ := view.Of(h.c, h.told, some)
			other, _ := view.Of(h.c, h.told, some)
			want := fmt.Sprint(other)
			spoilTold(one)
			if h.String() != in || fmt.Sprint(other) != want {
				t.Errorf("%v seen by %b: a change of one answer is seen elsewhere", told, some)
			}
		}
	}
}

// areApart writes something else over each list and the room behind it.
func areApart[T comparable](t *testing.T, what string, lists [][]T, with func(i int) T) {
	t.Helper()
	for i, l := range lists {
		spoil(l, with(i))
	}
	for i, l := range lists {
		for _, x := range l[:cap(l)] {
			if x != with(i) {
				t.Fatalf("%s: two lists share memory", what)
			}
		}
	}
}

func TestNoTwoListsOfOneAnswerShareAny(t *testing.T) { // 'What holds everywhere'
	shared := full(1)
	for _, told := range append(samples(), many(shared, shared, shared)) {
		for some := range 8 {
			seen, _ := view.Of(plain(), told, some)
			var sent [][]api.Envelope
			var frames [][]byte
			var reports [][]int
			for _, x := range seen {
				sent, frames, reports = append(sent, x.Sent), append(frames, x.Frame), append(reports, x.Report)
			}
			areApart(t, "Sent", sent, func(i int) api.Envelope { return api.Envelope{Id: -9 - i} })
			areApart(t, "Frame", frames, func(i int) byte { return byte(i) })
			areApart(t, "Report", reports, func(i int) int { return -9 - i })
		}
	}
}

func TestOneThingToldMoreThanOnceIsSeenAsOften(t *testing.T) { // 'What holds everywhere': lists that were handed in may share memory
	x := full(1)
	isOf(t, plain(), many(x, x, x), 2, many(full(1), full(1), full(1)), api.OK)
	isOf(t, plain(), many(x, x, x), 1, many(hidden(1), hidden(1), hidden(1)), api.OK)
}

// Example: as README.md tells it.
func Example() {
	c := api.Config{Branches: 2, Labels: []int{3}, Ticks: 2, Minted: []int{5}, Cap: 2}
	told, _ := world.Play(c, []api.Step{
		{Kind: api.AskFor, Who: 1, Item: 0, Count: 3},
		{Kind: api.Ticks},
		{Kind: api.Deliver, Id: 2},
		{Kind: api.Ticks},
		{Kind: api.Deliver, Id: 11},
		{Kind: api.Sale, Who: 1, Item: 0, Count: 1},
		{Kind: api.Sale, Who: 1, Item: 0, Count: 2},
	})
	own, _ := view.Of(c, told, 2)
	other, _ := view.Of(c, told, 1)
	fmt.Println(other[1].Sent)
	fmt.Println(other[1].Report)
	fmt.Println(own[2].Who, own[2].Frame)
	fmt.Println(own[4].Frame, other[4].Frame)
	fmt.Println(own[5].Stock, other[5].Stock)
	fmt.Println(own[6].Code, other[6].Code)
	fmt.Println(view.Of(c, told, 4))
	// Output:
	// [{0 0 2 3} {1 0 1 34} {2 1 2 3} {3 1 0 34} {4 2 0 3} {5 2 1 3}]
	// [5]
	// 2 []
	// [0 0 16] []
	// {0 0 1 0 1} {0 0 0 0 0}
	// 9 0
	// [] 2
}
