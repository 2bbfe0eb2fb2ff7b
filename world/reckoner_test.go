package world_test

import (
	"bytes"
	"math/rand"
	"slices"
	"strings"
	"testing"

	"splittally/api"
)

// reckoner reckons a world a second time: it keeps all that ever was, and looks through it for what there is.
type reckoner struct {
	api.Config
	asks    [][]int         // of each branch, of each item
	chests  [][]chest       // the same
	knows   [][][]api.Entry // of each branch, of each label: all it ever knew
	frames  []sheet
	wants   [][]int // at the broker: of each item, of each branch
	given   [][]int // the same
	quotas  [][]int // the same: what is left in this epoch
	reserve []int
	ticks   int
}

// chest has what ever came in and went out of a stock.
type chest struct {
	gained, sold, back int
	holds              []held
}

// held is a hold, open or not.
type held struct {
	count, ticks  int
	used, dropped bool
}

func (h held) isOpen() bool { return !h.used && !h.dropped }

// sheet is a frame, and what stands in it.
type sheet struct {
	from, to     int
	data         []byte
	counts       []int
	notes        [][]api.Entry
	opened, lost bool
}

func reckonerOf(c api.Config) *reckoner {
	k := &reckoner{Config: c, reserve: slices.Clone(c.Minted)}
	for range c.Branches {
		k.asks = append(k.asks, make([]int, len(c.Minted)))
		k.chests = append(k.chests, make([]chest, len(c.Minted)))
		k.knows = append(k.knows, make([][]api.Entry, len(c.Labels)))
	}
	for range c.Minted {
		k.wants = append(k.wants, make([]int, c.Branches))
		k.given = append(k.given, make([]int, c.Branches))
		k.quotas = append(k.quotas, make([]int, c.Branches))
	}
	return k
}

func (k *reckoner) isIn(who, label int) bool { return k.Labels[label]>>who&1 == 1 }

func outside(n, least, greatest int) bool { return n < least || n > greatest }

func (x *chest) now() api.Stock {
	s := api.Stock{Free: x.gained - x.sold + x.back, Used: x.sold - x.back}
	for _, h := range x.holds {
		switch {
		case h.used:
			s.Free, s.Used = s.Free-h.count, s.Used+h.count
		case h.isOpen():
			s.Free, s.Held = s.Free-h.count, s.Held+h.count
		}
	}
	return s
}

// order is told with its Code apart.
func (x *chest) order(s api.Step) (api.Stock, api.Errno) {
	id, code := x.refuseOrDo(s)
	now := x.now()
	now.Id = id
	return now, code
}

func (x *chest) refuseOrDo(s api.Step) (int, api.Errno) {
	now := x.now()
	switch s.Kind {
	case api.Sale, api.Holding, api.Refunds:
		if outside(s.Count, 1, most) || s.Kind == api.Holding && outside(s.Life, 1, life) {
			return 0, api.ErrRange
		}
	case api.Confirms, api.Cancels:
		if outside(s.Id, 1, len(x.holds)) {
			return 0, api.ErrNone
		}
		if !x.holds[s.Id-1].isOpen() {
			return 0, api.ErrOld
		}
	}
	open := 0
	for _, h := range x.holds {
		if h.isOpen() {
			open++
		}
	}
	switch {
	case s.Kind == api.Holding && open == 4:
		return 0, api.ErrFull
	case (s.Kind == api.Sale || s.Kind == api.Holding) && now.Free < s.Count:
		return 0, api.ErrLess
	case s.Kind == api.Refunds && now.Used < s.Count:
		return 0, api.ErrLess
	}
	switch s.Kind {
	case api.Sale:
		x.sold += s.Count
	case api.Refunds:
		x.back += s.Count
	case api.Holding:
		x.holds = append(x.holds, held{count: s.Count, ticks: s.Life})
		return len(x.holds), api.OK
	case api.Confirms:
		x.holds[s.Id-1].used = true
	case api.Cancels:
		x.holds[s.Id-1].dropped = true
	}
	return 0, api.OK
}

// rank is what is asked of an entry, in the order named: the greater list is of what is newer.
func rank(e api.Entry) []int { return []int{e.Time, e.Who, e.Value} }

// under is the newest of a key that a branch ever knew; none, if there is none.
func (k *reckoner) under(who, label, key int) []api.Entry {
	var best []api.Entry
	for _, e := range k.knows[who][label] {
		if e.Key == key && (len(best) == 0 || slices.Compare(rank(e), rank(best[0])) > 0) {
			best = []api.Entry{e}
		}
	}
	return best
}

// has is what a branch has of each label.
func (k *reckoner) has(who int) [][]api.Entry {
	l := make([][]api.Entry, len(k.Labels))
	for label := range l {
		for key := range shelf {
			l[label] = append(l[label], k.under(who, label, key)...)
		}
	}
	return l
}

func (k *reckoner) learn(who, label int, l ...api.Entry) {
	for _, e := range l {
		if !slices.Contains(k.knows[who][label], e) {
			k.knows[who][label] = append(k.knows[who][label], e)
		}
	}
}

func (k *reckoner) do(s api.Step) api.Told {
	switch {
	case outside(s.Kind, 1, 11):
		return api.Told{Code: api.ErrKind}
	case s.Kind == api.Ticks:
		return k.tick()
	case s.Kind == api.Deliver:
		return k.deliver(s.Id)
	case s.Kind == api.Lose:
		code := k.refuseFrame(s.Id)
		if code == api.OK {
			k.frames[s.Id].lost = true
		}
		return api.Told{Code: code}
	case outside(s.Who, 0, k.Branches-1):
		return api.Told{Code: api.ErrRange}
	case s.Kind == api.Puts || s.Kind == api.Gets:
		value, code := k.note(s)
		return api.Told{Code: code, Who: s.Who, Value: value}
	case outside(s.Item, 0, len(k.Minted)-1):
		return api.Told{Code: api.ErrRange, Who: s.Who}
	case s.Kind == api.AskFor:
		return api.Told{Code: k.ask(s), Who: s.Who}
	}
	stock, code := k.chests[s.Who][s.Item].order(s)
	return api.Told{Code: code, Who: s.Who, Stock: stock}
}

func (k *reckoner) ask(s api.Step) api.Errno {
	if outside(s.Count, 1, most) {
		return api.ErrRange
	}
	if k.asks[s.Who][s.Item] > most-s.Count {
		return api.ErrOver
	}
	k.asks[s.Who][s.Item] += s.Count
	return api.OK
}

func (k *reckoner) note(s api.Step) (int, api.Errno) {
	if outside(s.Label, 0, len(k.Labels)-1) || outside(s.Key, 0, shelf-1) || s.Kind == api.Puts && outside(s.Count, 0, highest) {
		return 0, api.ErrRange
	}
	if !k.isIn(s.Who, s.Label) {
		return 0, api.ErrDenied
	}
	if s.Kind == api.Gets {
		at := k.under(s.Who, s.Label, s.Key)
		if len(at) == 0 {
			return 0, api.ErrNone
		}
		return at[0].Value, api.OK
	}
	time := 0
	for _, e := range k.knows[s.Who][s.Label] {
		time = max(time, e.Time)
	}
	k.learn(s.Who, s.Label, entry(s.Key, s.Count, time+1, s.Who))
	return 0, api.OK
}

func (k *reckoner) refuseFrame(id int) api.Errno {
	if outside(id, 0, len(k.frames)-1) {
		return api.ErrNone
	}
	x := k.frames[id]
	for _, y := range k.frames[id:] {
		if y.opened && y.from == x.from && y.to == x.to {
			return api.ErrOld
		}
	}
	if x.lost {
		return api.ErrOld
	}
	return api.OK
}

func (k *reckoner) deliver(id int) api.Told {
	code := k.refuseFrame(id)
	if code == api.ErrNone {
		return api.Told{Code: code}
	}
	x := &k.frames[id]
	if code != api.OK {
		return api.Told{Code: code, Who: x.to}
	}
	x.opened = true
	for i, count := range x.counts {
		if x.to == k.Branches {
			k.wants[i][x.from] = max(k.wants[i][x.from], count)
		} else {
			k.chests[x.to][i].gained = max(k.chests[x.to][i].gained, count)
		}
	}
	for label, l := range x.notes {
		k.learn(x.to, label, l...)
	}
	return api.Told{Who: x.to, Frame: slices.Clone(x.data)}
}

func (k *reckoner) tick() api.Told {
	for _, l := range k.chests {
		for i := range l {
			for at := range l[i].holds {
				h := &l[i].holds[at]
				h.ticks--
				if h.isOpen() && h.ticks == 0 {
					h.dropped = true
				}
			}
		}
	}
	first := len(k.frames)
	for who := range k.Branches {
		k.post(sheet{from: who, to: k.Branches, counts: slices.Clone(k.asks[who])})
		for to := range k.Branches {
			if to != who {
				k.post(sheet{from: who, to: to, notes: k.shared(who, to)})
			}
		}
	}
	var told api.Told
	if k.ticks%k.Ticks == 0 {
		told.Report = slices.Clone(k.reserve)
		k.beginEpoch()
	}
	k.ticks++
	k.rounds()
	for to := range k.Branches {
		var counts []int
		for i := range k.Minted {
			counts = append(counts, k.given[i][to])
		}
		k.post(sheet{from: k.Branches, to: to, counts: counts})
	}
	for id, x := range k.frames[first:] {
		told.Sent = append(told.Sent, api.Envelope{Id: first + id, From: x.from, To: x.to, Size: len(x.data)})
	}
	return told
}

// beginEpoch: as all branches want the same, each has as much as each other, and the first ones have what is left.
func (k *reckoner) beginEpoch() {
	for i, count := range k.reserve {
		for who := range k.Branches {
			k.quotas[i][who] = k.Cap
			if k.Cap*k.Branches > count {
				k.quotas[i][who] = (count + k.Branches - 1 - who) / k.Branches
			}
		}
	}
}

func (k *reckoner) rounds() {
	for i := range k.Minted {
		for who := range k.Branches {
			n := min(k.wants[i][who]-k.given[i][who], k.quotas[i][who])
			k.given[i][who] += n
			k.quotas[i][who] -= n
			k.reserve[i] -= n
		}
	}
}

// shared is what a branch has of the labels in which another one is, too.
func (k *reckoner) shared(who, to int) [][]api.Entry {
	l := k.has(who)
	for label := range l {
		if !k.isIn(who, label) || !k.isIn(to, label) {
			l[label] = nil
		}
	}
	return l
}

func (k *reckoner) post(x sheet) {
	bits := ""
	for _, n := range x.counts {
		bits += digits(n, 21)
	}
	for label, l := range x.notes {
		if k.isIn(x.from, label) && k.isIn(x.to, label) {
			bits += slots(l)
		}
	}
	x.data = record(bits)
	k.frames = append(k.frames, x)
}

func (k *reckoner) end() ending {
	x := ending{reserve: slices.Clone(k.reserve)}
	for who := range k.Branches {
		var l []api.Purse
		for i := range k.Minted {
			l = append(l, api.Purse{Asked: k.asks[who][i], Stock: k.chests[who][i].now()})
		}
		x.purses = append(x.purses, l)
		x.stores = append(x.stores, k.has(who))
	}
	return x
}

// digits are so many bits of a number, the highest first.
func digits(n, width int) string {
	b := make([]byte, width)
	for i := range b {
		b[i] = byte('0' + n>>(width-1-i)&1)
	}
	return string(b)
}

// record are the bytes of bits, as many 0 being behind them as the last byte needs.
func record(bits string) []byte {
	b := make([]byte, (len(bits)+7)/8)
	for i, d := range bits {
		if d == '1' {
			b[i/8] += 128 >> (i % 8)
		}
	}
	return b
}

// slots are the bits of the entries of a label.
func slots(l []api.Entry) string {
	all := slices.Repeat([]string{strings.Repeat("0", 34)}, shelf)
	for _, e := range l {
		all[e.Key] = "10" + digits(e.Value, 8) + digits(e.Time, 21) + digits(e.Who, 3)
	}
	return strings.Join(all, "")
}

func sameTold(a, b api.Told) bool {
	return a.Code == b.Code && a.Who == b.Who && a.Stock == b.Stock && a.Value == b.Value &&
		slices.Equal(a.Sent, b.Sent) && bytes.Equal(a.Frame, b.Frame) && slices.Equal(a.Report, b.Report)
}

// isReckoned compares a play and its end with what is reckoned.
func isReckoned(t *testing.T, c api.Config, l []api.Step) []api.Told {
	t.Helper()
	k := reckonerOf(c)
	told := play(t, c, l)
	for i, s := range l {
		if want := k.do(s); !sameTold(told[i], want) {
			t.Fatalf("Play(%+v, %v): the step %d comes to %v, want %v", c, l[:i+1], i, told[i], want)
		}
	}
	if got, want := end(t, c, l), k.end(); !got.is(want) {
		t.Fatalf("End(%+v, %v): %v, want %v", c, l, got, want)
	}
	return told
}

func TestAllShortPlays(t *testing.T) { // P12.1, P12.2, P12.3, P12.4
	two := api.Config{Branches: 2, Labels: []int{3}, Ticks: 2, Minted: []int{5}, Cap: 2}
	for _, x := range []struct {
		before, each []api.Step
	}{
		{nil, of(ask(1, 0, 3), tick, deliver(2), deliver(5), deliver(11), lose(5), sale(1, 0, 1), holding(1, 0, 1, 1))},
		{of(ask(1, 0, 3), tick, deliver(2), tick, deliver(11)), of(sale(1, 0, 1), holding(1, 0, 1, 1), confirms(1, 0, 1), cancels(1, 0, 1), refunds(1, 0, 1), tick)},
		{nil, of(puts(0, 0, 1, 5), puts(1, 0, 1, 6), gets(0, 0, 1), tick, deliver(1), deliver(3), deliver(7), lose(1))},
		{of(ask(0, 0, 9), ask(1, 0, 9), tick, tick, tick, tick), of(deliver(0), deliver(2), deliver(12), tick, deliver(16), deliver(28), lose(28))},
	} {
		all := [][]api.Step{x.before}
		for range 5 {
			var longer [][]api.Step
			for _, l := range all {
				for _, s := range x.each {
					longer = append(longer, of(l, s))
				}
			}
			all = longer
		}
		for _, l := range all {
			isReckoned(t, two, l)
		}
	}
}

// anyConfig takes one by chance, the same at each run.
func anyConfig(r *rand.Rand) api.Config {
	c := api.Config{Branches: 1 + r.Intn(crowd), Ticks: 1 + r.Intn(epoch), Cap: r.Intn(40)}
	if r.Intn(2) == 0 {
		c.Branches = 1 + r.Intn(3)
	}
	for range r.Intn(tags + 1) {
		label := 0
		for who := range c.Branches {
			// Most branches are in most labels.
			if r.Intn(4) > 0 {
				label |= 1 << who
			}
		}
		c.Labels = append(c.Labels, label)
	}
	for range 1 + r.Intn(things) {
		c.Minted = append(c.Minted, []int{0, r.Intn(20), r.Intn(200), most}[r.Intn(4)])
	}
	if r.Intn(6) == 0 {
		c.Cap = []int{0, most}[r.Intn(2)]
	}
	return c
}

// anyPlay takes steps by chance, the same at each run; some are out of their range.
func anyPlay(r *rand.Rand, c api.Config, n int) []api.Step {
	var l []api.Step
	sent := 0
	holds, longest := r.Intn(3), 1+r.Intn(life)
	for range n {
		s := api.Step{Kind: 1 + r.Intn(11), Who: r.Intn(c.Branches), Item: r.Intn(len(c.Minted)), Count: 1 + r.Intn(5), Life: 1 + r.Intn(longest), Id: 1 + r.Intn(6), Key: r.Intn(4)}
		// In some plays much is held, and little else is done with a stock.
		if holds == 0 && s.Kind >= api.Sale && s.Kind <= api.Refunds {
			s.Kind, s.Count = []int{api.Holding, api.Holding, s.Kind}[r.Intn(3)], 1
		}
		if s.Kind == api.AskFor && r.Intn(10) == 0 {
			s.Count = most - r.Intn(10)
		}
		if len(c.Labels) > 0 {
			s.Label = r.Intn(len(c.Labels))
		}
		if s.Kind == api.Lose && r.Intn(2) == 0 || s.Kind == api.Gets && r.Intn(2) == 0 {
			s.Kind = api.Deliver
		}
		if s.Kind >= api.Deliver {
			// Mostly one that was sent of late.
			s.Id = max(0, sent-1-r.Intn(3*perTick(c)))
		}
		if r.Intn(12) == 0 {
			spoilt := []*int{&s.Kind, &s.Who, &s.Item, &s.Count, &s.Life, &s.Id, &s.Label, &s.Key}
			*spoilt[r.Intn(len(spoilt))] = anyNumbers[r.Intn(len(anyNumbers))]
		}
		if s.Kind == api.Ticks {
			sent += perTick(c)
		}
		l = append(l, s)
	}
	return l
}

func TestManyPlays(t *testing.T) { // P12.1, P12.2, P12.3, P12.4
	r := rand.New(rand.NewSource(12))
	seen := map[[2]int]int{}
	for range 400 {
		c := anyConfig(r)
		l := anyPlay(r, c, r.Intn(deeds+1))
		for i, x := range isReckoned(t, c, l) {
			seen[[2]int{l[i].Kind, int(x.Code)}]++
		}
	}
	for kind, all := range map[int][]api.Errno{
		api.AskFor:   {api.OK, api.ErrRange, api.ErrOver},
		api.Sale:     {api.OK, api.ErrRange, api.ErrLess},
		api.Holding:  {api.OK, api.ErrRange, api.ErrLess, api.ErrFull},
		api.Confirms: {api.OK, api.ErrRange, api.ErrNone, api.ErrOld},
		api.Cancels:  {api.OK, api.ErrRange, api.ErrNone, api.ErrOld},
		api.Refunds:  {api.OK, api.ErrRange, api.ErrLess},
		api.Puts:     {api.OK, api.ErrRange, api.ErrDenied},
		api.Gets:     {api.OK, api.ErrRange, api.ErrDenied, api.ErrNone},
		api.Ticks:    {api.OK},
		api.Deliver:  {api.OK, api.ErrNone, api.ErrOld},
		api.Lose:     {api.OK, api.ErrNone, api.ErrOld},
		0:            {api.ErrKind},
	} {
		for _, code := range all {
			if seen[[2]int{kind, int(code)}] < 10 {
				t.Errorf("the kind %d came to %d in %d steps: they are badly chosen", kind, code, seen[[2]int{kind, int(code)}])
			}
		}
	}
}

// settled is a play behind which all that was given has come to its stock.
func settled(c api.Config, l []api.Step) []api.Step {
	ticks := 0
	for _, s := range l {
		if s.Kind == api.Ticks {
			ticks++
		}
	}
	l = of(l, tick)
	for who := range c.Branches {
		l = append(l, deliver(grantAt(c, ticks, who)))
	}
	return l
}

func TestOfEachItemWhatWasMintedIsSomewhereOnce(t *testing.T) { // P12.4: 'What comes of it'
	r := rand.New(rand.NewSource(13))
	for range 300 {
		c := anyConfig(r)
		l := anyPlay(r, c, r.Intn(200))
		before, behind := end(t, c, l), end(t, c, settled(c, l))
		for i, minted := range c.Minted {
			if behind.all(i) != minted {
				t.Fatalf("End(%+v, %v): of the item %d there is %d behind all frames, and %d was minted", c, l, i, behind.all(i), minted)
			}
			// Ahead of these, what is under way is with nobody.
			if before.all(i) > minted {
				t.Fatalf("End(%+v, %v): of the item %d there is %d, and %d was minted", c, l, i, before.all(i), minted)
			}
		}
	}
}

func TestEnvelopesHangOnTheConfigAlone(t *testing.T) { // P12.2: 'What comes of it'
	r := rand.New(rand.NewSource(14))
	for range 150 {
		c := anyConfig(r)
		want := sentIn(play(t, c, slices.Repeat(of(tick), 60)))
		got := sentIn(play(t, c, anyPlay(r, c, deeds)))
		n := min(len(want), len(got))
		if !slices.Equal(got[:n], want[:n]) {
			t.Fatalf("%+v: %v are sent, and %v where nothing is done", c, got[:n], want[:n])
		}
	}
}

func sentIn(told []api.Told) []api.Envelope {
	var l []api.Envelope
	for _, x := range told {
		l = append(l, x.Sent...)
	}
	return l
}

// hidden is a play without what others do that one may not learn: their asks and orders, and what they put where it is not.
func hidden(c api.Config, l []api.Step, one int) []api.Step {
	k := slices.Clone(l)
	for i, s := range k {
		isNote := s.Kind == api.Puts || s.Kind == api.Gets
		readable := isNote && s.Label >= 0 && s.Label < len(c.Labels) && c.Labels[s.Label]>>one&1 == 1
		if s.Who != one && s.Kind >= api.AskFor && s.Kind <= api.Gets && !readable {
			k[i] = gets(s.Who, 0, 0)
		}
	}
	return k
}

func TestNobodyLearnsWithinAnEpochWhatOthersDo(t *testing.T) { // P12.2, P12.3: 'What comes of it'
	r := rand.New(rand.NewSource(15))
	for range 300 {
		c := anyConfig(r)
		c.Ticks = epoch
		l := anyPlay(r, c, deeds)
		// No more ticks than one epoch has.
		l = l[:len(l):len(l)]
		for i, n := 0, 0; i < len(l); i++ {
			if l[i].Kind == api.Ticks {
				if n++; n > epoch {
					l = l[:i]
				}
			}
		}
		told := play(t, c, l)
		for one := range c.Branches {
			for i, x := range play(t, c, hidden(c, l, one)) {
				same := sameTold(x, told[i])
				if told[i].Who != one || l[i].Kind >= api.AskFor && l[i].Kind <= api.Gets && l[i].Who != one {
					same = slices.Equal(x.Sent, told[i].Sent) && slices.Equal(x.Report, told[i].Report)
				}
				if !same {
					t.Fatalf("%+v, %v: at the step %d %d is told %v, and %v if others did nothing", c, l, i, one, told[i], x)
				}
			}
		}
	}
}

func TestEndIsWhatPlayCameTo(t *testing.T) { // P12.4
	r := rand.New(rand.NewSource(16))
	for range 30 {
		c := anyConfig(r)
		l := anyPlay(r, c, r.Intn(200))
		x := end(t, c, l)
		for who := range c.Branches {
			for label, store := range x.stores[who] {
				for key := range shelf {
					want := api.Told{Code: api.ErrNone, Who: who}
					if c.Labels[label]>>who&1 == 0 {
						want.Code = api.ErrDenied
					}
					for _, e := range store {
						if e.Key == key {
							want.Code, want.Value = api.OK, e.Value
						}
					}
					isLast(t, c, of(l, gets(who, label, key)), want)
				}
			}
			for i, p := range x.purses[who] {
				// What is refused tells the stock as it is.
				isLast(t, c, of(l, sale(who, i, most+1)), api.Told{Code: api.ErrRange, Who: who, Stock: p.Stock})
				if p.Asked < most {
					isLast(t, c, of(l, ask(who, i, most-p.Asked)), api.Told{Who: who})
				}
				isLast(t, c, of(l, ask(who, i, most-p.Asked+1)), api.Told{Code: over(p.Asked), Who: who})
			}
		}
		for _, x := range play(t, c, of(l, tick))[len(l):] {
			if reserve := end(t, c, l).reserve; len(x.Report) > 0 && !slices.Equal(x.Report, reserve) {
				t.Fatalf("%+v, %v: the reserves are %v, and the next tick reports %v", c, l, reserve, x.Report)
			}
		}
	}
}

// over is what one more than MaxCount comes to: out of its range, where nothing was asked.
func over(asked int) api.Errno {
	if asked == 0 {
		return api.ErrRange
	}
	return api.ErrOver
}
