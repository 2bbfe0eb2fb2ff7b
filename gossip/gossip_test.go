package gossip_test

import (
	"fmt"
	"math"
	"math/rand"
	"slices"
	"testing"

	"splittally/api"
	"splittally/gossip"
	"splittally/reg"
)

// The limits, written out: MaxBranches, MaxLabels, MaxKeys, MaxValue and MaxDeeds.
const (
	crowd   = 8
	tags    = 4
	shelf   = 8
	highest = 255
	deeds   = 300
)

// wild are next to 0, what wraps round to a small number, and the ends of all numbers: none is a branch, a label, a place of one, a Key or a Value, or how many branches there are.
var wild = []int{-1, -2, -8, -255, -256, 256, 257, 1 << 20, 1 << 32, 1<<32 + 1, 1<<32 + 3, 1<<32 - 1, -1 << 32, math.MaxInt - 1, math.MaxInt, math.MinInt, math.MinInt + 1}

// anyNumbers are wild ones, and such as may be somewhere.
var anyNumbers = append([]int{0, 1, 2, 3, 4, 5, 7, 8, 9, 254, 255}, wild...)

var noKinds = []int{0, -1, -2, -3, 4, 5, 256, 257, 258, 259, 1 << 32, 1<<32 + 1, 1<<32 + 2, 1<<32 + 3, math.MaxInt, math.MinInt, math.MinInt + 1}

func write(who, label, key, value int) api.Turn {
	return api.Turn{Kind: api.Write, Who: who, Label: label, Key: key, Value: value}
}

func erase(who, label, key int) api.Turn {
	return api.Turn{Kind: api.Erase, Who: who, Label: label, Key: key}
}

func tell(who, to int) api.Turn { return api.Turn{Kind: api.Tell, Who: who, To: to} }

// of makes one list of turns and lists of turns.
func of(parts ...any) []api.Turn {
	var l []api.Turn
	for _, p := range parts {
		switch x := p.(type) {
		case api.Turn:
			l = append(l, x)
		case []api.Turn:
			l = append(l, x...)
		}
	}
	return l
}

func times(n int, t api.Turn) []api.Turn { return slices.Repeat([]api.Turn{t}, n) }

func note(key, value, time, who int) api.Entry {
	return api.Entry{Key: key, Value: value, Time: time, Who: who}
}

func gone(key, time, who int) api.Entry {
	return api.Entry{Key: key, Time: time, Who: who, Gone: true}
}

// many are entries of one label.
func many(l ...api.Entry) []api.Entry { return l }

// branch is what a branch has of each label.
func branch(l ...[]api.Entry) [][]api.Entry { return l }

// fine are codes of turns none of which is refused.
func fine(n int) []api.Errno { return make([]api.Errno, n) }

func codes(l ...api.Errno) []api.Errno { return l }

func sameBranch(a, b [][]api.Entry) bool {
	return slices.EqualFunc(a, b, slices.Equal[[]api.Entry])
}

func sameStores(a, b [][][]api.Entry) bool { return slices.EqualFunc(a, b, sameBranch) }

// circle is what a play is given beside its turns.
type circle struct {
	branches int
	labels   []int
}

func (c circle) isIn(who, label int) bool { return c.labels[label]>>who&1 == 1 }

// play checks of each answer how many there are of each, that nobody has anything of a label in which it is not, and that entries may be.
func (c circle) play(t *testing.T, l []api.Turn) ([]api.Errno, [][][]api.Entry) {
	t.Helper()
	told, has, code := gossip.Play(c.branches, c.labels, l)
	if code != api.OK || len(told) != len(l) || len(has) != c.branches {
		t.Fatalf("Play(%v, %v): %d and %d answers, and %d; want %d, %d and 0", c, l, len(told), len(has), code, len(l), c.branches)
	}
	for who := range has {
		if len(has[who]) != len(c.labels) {
			t.Fatalf("Play(%v, %v): the branch %d has %v", c, l, who, has[who])
		}
		for label, x := range has[who] {
			if !reg.May(x) || len(x) > 0 && !c.isIn(who, label) {
				t.Fatalf("Play(%v, %v): the branch %d has %v of the label %d", c, l, who, x, label)
			}
		}
	}
	return told, has
}

// is compares all that is told.
func (c circle) is(t *testing.T, l []api.Turn, told []api.Errno, has ...[][]api.Entry) {
	t.Helper()
	gotTold, gotHas := c.play(t, l)
	if !slices.Equal(gotTold, told) || !sameStores(gotHas, has) {
		t.Errorf("Play(%v, %v):\n%v %v, want\n%v %v", c, l, gotTold, gotHas, told, has)
	}
}

// isFine compares what each has behind turns none of which is refused.
func (c circle) isFine(t *testing.T, l []api.Turn, has ...[][]api.Entry) {
	t.Helper()
	c.is(t, l, fine(len(l)), has...)
}

// isRefused compares the answer to a whole play.
func (c circle) isRefused(t *testing.T, l []api.Turn, want api.Errno) {
	t.Helper()
	if told, has, code := gossip.Play(c.branches, c.labels, l); len(told) != 0 || len(has) != 0 || code != want {
		t.Errorf("Play(%v) of %d turns: %v %v %d, want none and %d", c, len(l), told, has, code, want)
	}
}

// isRefusedWithoutATrace compares a turn's answer, and checks that all behind it comes to the same as without it.
func (c circle) isRefusedWithoutATrace(t *testing.T, before []api.Turn, x api.Turn, want api.Errno) {
	t.Helper()
	for _, behind := range [][]api.Turn{nil, c.allDo()} {
		with, has := c.play(t, of(before, x, behind))
		without, had := c.play(t, of(before, behind))
		if with[len(before)] != want {
			t.Errorf("%v behind %v: %v comes to %d, want %d", c, before, x, with[len(before)], want)
		}
		if got := slices.Delete(slices.Clone(with), len(before), len(before)+1); !slices.Equal(got, without) || !sameStores(has, had) {
			t.Errorf("%v behind %v: %v leaves a trace: %v %v, want %v %v", c, before, x, got, has, without, had)
		}
	}
}

// allDo are turns of each kind of all branches under all labels.
func (c circle) allDo() []api.Turn {
	var l []api.Turn
	for who := range c.branches {
		for label := range c.labels {
			l = of(l, erase(who, label, 0), write(who, label, 3, who), erase(who, label, 7))
		}
	}
	return of(l, c.allTell())
}

// allTell tells each what all others have.
func (c circle) allTell() []api.Turn {
	var l []api.Turn
	for who := range c.branches {
		for to := range c.branches {
			l = append(l, tell(who, to))
		}
	}
	return l
}

// three is of 0, 1 and 2: the label 0 is of 0 and 1, 1 of 1 and 2, 2 of all.
var three = circle{3, []int{3, 6, 7}}

func TestAtFirstNobodyHasAnything(t *testing.T) { // P10.1
	for branches := 1; branches <= crowd; branches++ {
		for count := 0; count <= tags; count++ {
			c := circle{branches, slices.Repeat([]int{1<<branches - 1}, count)}
			none := slices.Repeat([][][]api.Entry{make([][]api.Entry, count)}, branches)
			c.is(t, nil, nil, none...)
			c.is(t, []api.Turn{}, nil, none...)
			// Nor does it by telling.
			c.isFine(t, c.allTell(), none...)
		}
	}
	circle{2, []int{}}.is(t, nil, nil, branch(), branch())
}

func TestOneTurn(t *testing.T) { // P10.1
	c := circle{2, []int{3}}
	c.isFine(t, of(write(1, 0, 2, 9)), branch(nil), branch(many(note(2, 9, 1, 1))))
	c.isFine(t, of(tell(0, 1)), branch(nil), branch(nil))
	for _, x := range []struct {
		turn api.Turn
		want api.Errno
	}{
		{erase(1, 0, 2), api.ErrNone},
		{api.Turn{}, api.ErrKind},
		{write(2, 0, 0, 0), api.ErrRange},
		{erase(2, 0, 0), api.ErrRange},
		{tell(0, 2), api.ErrRange},
	} {
		c.is(t, of(x.turn), codes(x.want), branch(nil), branch(nil))
	}
	circle{2, []int{1}}.is(t, of(write(1, 0, 2, 9)), codes(api.ErrDenied), branch(nil), branch(nil))
}

func TestPlaysByTheCountOfTurns(t *testing.T) { // P10.1
	c := circle{2, []int{3}}
	for _, n := range []int{1, 2, 150, deeds - 1, deeds} {
		c.isFine(t, times(n, write(0, 0, 5, 7)), branch(many(note(5, 7, n, 0))), branch(nil))
		c.isFine(t, of(times(n-1, write(1, 0, 5, 7)), tell(1, 0)), slices.Repeat([][][]api.Entry{branch(told(n-1, note(5, 7, n-1, 1)))}, 2)...)
		c.is(t, times(n, api.Turn{}), slices.Repeat(codes(api.ErrKind), n), branch(nil), branch(nil))
		c.is(t, times(n, erase(0, 0, 5)), slices.Repeat(codes(api.ErrNone), n), branch(nil), branch(nil))
	}
	for _, n := range []int{deeds + 1, deeds + 2, 2 * deeds, 65536, 65536 + deeds} {
		for _, x := range []api.Turn{write(0, 0, 5, 7), tell(0, 1), erase(0, 0, 5), write(-1, 0, 0, 0), {}, {Kind: math.MinInt, Who: math.MaxInt, Label: math.MaxInt}} {
			c.isRefused(t, times(n, x), api.ErrSize)
			circle{1, nil}.isRefused(t, times(n, x), api.ErrSize)
		}
	}
}

// told is an entry that was written so many times: none, if never.
func told(n int, e api.Entry) []api.Entry {
	if n == 0 {
		return nil
	}
	return many(e)
}

// somePlays are such as may be of two branches, and one that may not.
var somePlays = [][]api.Turn{nil, {}, {write(0, 0, 1, 1), tell(0, 1)}, {{}}, times(deeds, tell(0, 0))}

func TestBranchesThatThereAreNot(t *testing.T) { // P10.1
	for _, l := range somePlays {
		for _, n := range append([]int{0, crowd + 1, crowd + 2, 16, 63, 64, 65, 255}, wild...) {
			for _, labels := range [][]int{nil, {}, {0}, {1}, {255}, {1, 1, 1, 1}} {
				circle{n, labels}.isRefused(t, l, api.ErrRange)
			}
		}
	}
}

func TestLabelsThatThereAreNot(t *testing.T) { // P10.1
	for _, l := range somePlays {
		for branches := 1; branches <= crowd; branches++ {
			wrong := append([]int{1 << branches, 1<<branches + 1, 1<<(branches+1) - 1, 1 << crowd, 1<<crowd + 1, 1<<(crowd+1) - 1, -1 << branches}, wild...)
			for _, s := range wrong {
				circle{branches, []int{s}}.isRefused(t, l, api.ErrRange)
				// At each place among such as may be.
				for place := range tags {
					labels := []int{1, 0, 1, 1}
					labels[place] = s
					circle{branches, labels}.isRefused(t, l, api.ErrRange)
				}
			}
		}
	}
}

func TestAllLabelsOfAllBranches(t *testing.T) { // P10.1
	for branches := 1; branches <= crowd; branches++ {
		for s := range 1 << (crowd + 1) {
			c := circle{branches, []int{s}}
			if s>>branches != 0 {
				c.isRefused(t, nil, api.ErrRange)
				continue
			}
			// Each writes, and tells all: those that are in it have all of it, in their order.
			var l []api.Turn
			var all []api.Entry
			var want []api.Errno
			for who := range branches {
				l = append(l, write(who, 0, who, 10+who))
				if c.isIn(who, 0) {
					all, want = append(all, note(who, 10+who, 1, who)), append(want, api.OK)
				} else {
					want = append(want, api.ErrDenied)
				}
			}
			has := make([][][]api.Entry, branches)
			for who := range branches {
				has[who] = branch(nil)
				if c.isIn(who, 0) {
					has[who] = branch(all)
				}
			}
			c.is(t, of(l, c.allTell()), append(want, fine(branches*branches)...), has...)
		}
	}
}

func TestLabelsByTheirCount(t *testing.T) { // P10.1
	for count := 0; count <= tags; count++ {
		c := circle{2, slices.Repeat([]int{3}, count)}
		has := branch()
		l := of()
		for label := range count {
			l = append(l, write(1, label, label, label))
			has = append(has, many(note(label, label, 1, 1)))
		}
		c.isFine(t, of(l, tell(1, 0)), has, has)
		for _, label := range append([]int{count, count + 1, tags, 255}, wild...) {
			if label < 0 || label >= count {
				c.isRefusedWithoutATrace(t, l, write(1, label, 0, 0), api.ErrRange)
				c.isRefusedWithoutATrace(t, l, erase(1, label, 0), api.ErrRange)
			}
		}
	}
	for _, count := range []int{tags + 1, tags + 2, 8, 256, 257, 65536} {
		for _, s := range []int{0, 1, 3} {
			for _, l := range somePlays {
				circle{2, slices.Repeat([]int{s}, count)}.isRefused(t, l, api.ErrSize)
			}
		}
	}
}

func TestTheErrorOfAPlayThatIsNamedFirst(t *testing.T) { // P10.1: ErrRange ahead of ErrSize
	long := times(deeds+1, tell(0, 0))
	crowded := slices.Repeat([]int{1}, tags+1)
	for _, n := range []int{0, -1, crowd + 1, math.MaxInt, math.MinInt} {
		circle{n, nil}.isRefused(t, long, api.ErrRange)
		circle{n, crowded}.isRefused(t, nil, api.ErrRange)
		circle{n, crowded}.isRefused(t, long, api.ErrRange)
	}
	for _, s := range []int{-1, 4, 256, math.MaxInt, math.MinInt} {
		circle{2, []int{s}}.isRefused(t, long, api.ErrRange)
		// The wrong one may stand beyond as many as there may be.
		for place := range crowded {
			labels := slices.Clone(crowded)
			labels[place] = s
			circle{2, labels}.isRefused(t, nil, api.ErrRange)
			circle{2, labels}.isRefused(t, long, api.ErrRange)
			circle{0, labels}.isRefused(t, long, api.ErrRange)
		}
	}
	circle{2, crowded}.isRefused(t, long, api.ErrSize)
	// Ahead of whatever turns come to.
	circle{2, crowded}.isRefused(t, of(api.Turn{}, write(9, 9, 9, 999)), api.ErrSize)
	circle{3, []int{8}}.isRefused(t, of(api.Turn{}, write(9, 9, 9, 999)), api.ErrRange)
}

func TestTheFirstAndTheLastBranch(t *testing.T) { // P10.1
	for branches := 1; branches <= crowd; branches++ {
		c := circle{branches, []int{1<<branches - 1}}
		none := slices.Repeat([][][]api.Entry{branch(nil)}, branches)
		for who := range branches {
			has := slices.Clone(none)
			has[who] = branch(many(note(1, 5, 1, who)))
			c.isFine(t, of(write(who, 0, 1, 5)), has...)
			has[who] = branch(many(gone(1, 2, who)))
			c.isFine(t, of(write(who, 0, 1, 5), erase(who, 0, 1)), has...)
			for to := range branches {
				has := slices.Clone(none)
				has[who] = branch(many(note(1, 5, 1, who)))
				has[to] = has[who]
				c.isFine(t, of(write(who, 0, 1, 5), tell(who, to)), has...)
			}
		}
		before := of(write(0, 0, 1, 5), write(branches-1, 0, 2, 6))
		for _, n := range append([]int{branches, branches + 1, crowd, crowd + 1, 63, 64}, wild...) {
			if n >= 0 && n < branches {
				continue
			}
			c.isRefusedWithoutATrace(t, before, write(n, 0, 1, 5), api.ErrRange)
			c.isRefusedWithoutATrace(t, before, erase(n, 0, 1), api.ErrRange)
			c.isRefusedWithoutATrace(t, before, tell(n, 0), api.ErrRange)
			c.isRefusedWithoutATrace(t, before, tell(0, n), api.ErrRange)
			c.isRefusedWithoutATrace(t, before, tell(branches-1, n), api.ErrRange)
			c.isRefusedWithoutATrace(t, before, tell(n, n), api.ErrRange)
		}
	}
}

func TestAllKeys(t *testing.T) { // P10.1
	c := circle{2, []int{3, 3}}
	for key := range shelf {
		c.isFine(t, of(write(1, 1, key, 9), tell(1, 0)), branch(nil, many(note(key, 9, 1, 1))), branch(nil, many(note(key, 9, 1, 1))))
		c.isFine(t, of(write(1, 1, key, 9), erase(1, 1, key)), branch(nil, nil), branch(nil, many(gone(key, 2, 1))))
	}
	before := of(write(0, 0, 0, 1), write(0, 1, 7, 2), tell(0, 1))
	for _, key := range append([]int{shelf, shelf + 1, 9, 15, 16, 255}, wild...) {
		for who := range 2 {
			for label := range 2 {
				c.isRefusedWithoutATrace(t, before, write(who, label, key, 1), api.ErrRange)
				c.isRefusedWithoutATrace(t, before, erase(who, label, key), api.ErrRange)
			}
		}
	}
}

func TestAllValues(t *testing.T) { // P10.1
	c := circle{2, []int{3}}
	for value := 0; value <= highest; value++ {
		has := branch(many(note(6, value, 1, 0)))
		c.isFine(t, of(write(0, 0, 6, value), tell(0, 1)), has, has)
	}
	for _, value := range append([]int{highest + 1, highest + 2, 511, 512}, wild...) {
		for _, before := range [][]api.Turn{nil, of(write(0, 0, 6, 1)), of(write(1, 0, 6, 1), tell(1, 0), erase(0, 0, 6))} {
			c.isRefusedWithoutATrace(t, before, write(0, 0, 6, value), api.ErrRange)
			c.isRefusedWithoutATrace(t, before, write(1, 0, 0, value), api.ErrRange)
		}
	}
}

func TestKindsThatThereAreNot(t *testing.T) { // P10.1
	for _, before := range [][]api.Turn{nil, of(write(0, 0, 0, 1), write(1, 2, 3, 4), tell(1, 2))} {
		for _, kind := range noKinds {
			three.isRefusedWithoutATrace(t, before, api.Turn{Kind: kind}, api.ErrKind)
			three.isRefusedWithoutATrace(t, before, api.Turn{Kind: kind, Who: 1, To: 2, Label: 2, Key: 3, Value: 9}, api.ErrKind)
			for _, n := range wild {
				three.isRefusedWithoutATrace(t, before, api.Turn{Kind: kind, Who: n, To: n, Label: n, Key: n, Value: n}, api.ErrKind)
			}
		}
	}
}

func TestWhatIsNotAskedForIsNotLookedAt(t *testing.T) { // P10.1: To of a Write and an Erase, Value of an Erase, all else of a Tell
	for _, n := range anyNumbers {
		wrote, erased, told := write(1, 0, 3, 9), erase(1, 0, 3), tell(1, 0)
		wrote.To = n
		three.isFine(t, of(wrote), branch(nil, nil, nil), branch(many(note(3, 9, 1, 1)), nil, nil), branch(nil, nil, nil))
		erased.To, erased.Value = n, n
		three.isFine(t, of(wrote, erased), branch(nil, nil, nil), branch(many(gone(3, 2, 1)), nil, nil), branch(nil, nil, nil))
		told.Label, told.Key, told.Value = n, n, n
		three.isFine(t, of(wrote, told), branch(many(note(3, 9, 1, 1)), nil, nil), branch(many(note(3, 9, 1, 1)), nil, nil), branch(nil, nil, nil))
		// One by one, so that no two make up for each other.
		for _, x := range []api.Turn{{Label: n}, {Key: n}, {Value: n}} {
			x.Kind, x.Who, x.To = api.Tell, 1, 0
			three.isFine(t, of(wrote, x), branch(many(note(3, 9, 1, 1)), nil, nil), branch(many(note(3, 9, 1, 1)), nil, nil), branch(nil, nil, nil))
		}
	}
}

func TestWhoIsNotInThatLabel(t *testing.T) { // P10.1
	c := circle{3, []int{0, 2, 7, 4}}
	before := of(write(1, 1, 1, 9), write(0, 2, 1, 8), write(2, 3, 1, 7), c.allTell())
	for who := range 3 {
		for label := range 4 {
			for _, key := range []int{0, 1, 7} {
				if !c.isIn(who, label) {
					c.isRefusedWithoutATrace(t, before, write(who, label, key, 5), api.ErrDenied)
					c.isRefusedWithoutATrace(t, before, erase(who, label, key), api.ErrDenied)
					c.isRefusedWithoutATrace(t, nil, write(who, label, key, 5), api.ErrDenied)
					c.isRefusedWithoutATrace(t, nil, erase(who, label, key), api.ErrDenied)
				}
			}
		}
	}
	c.is(t, before, fine(len(before)),
		branch(nil, nil, many(note(1, 8, 1, 0)), nil),
		branch(nil, many(note(1, 9, 1, 1)), many(note(1, 8, 1, 0)), nil),
		branch(nil, nil, many(note(1, 8, 1, 0)), many(note(1, 7, 1, 2))))
}

func TestTheErrorOfATurnThatIsNamedFirst(t *testing.T) { // P10.1
	before := of(write(0, 0, 1, 5), write(1, 1, 2, 6), tell(1, 0))
	for _, x := range []struct {
		turn api.Turn
		want api.Errno
	}{
		// Kind ahead of all else.
		{api.Turn{Kind: 0, Who: 3, Label: 3, Key: 8, Value: 256}, api.ErrKind},
		{api.Turn{Kind: 4, Who: -1, To: -1, Label: -1, Key: -1, Value: -1}, api.ErrKind},
		{api.Turn{Kind: 4, Who: 0, Label: 1, Key: 1}, api.ErrKind},
		// What is out of its range ahead of a label in which it is not: 0 is not in the label 1.
		{write(0, 1, 8, 1), api.ErrRange},
		{write(0, 1, -1, 1), api.ErrRange},
		{write(0, 1, 1, 256), api.ErrRange},
		{write(0, 1, 1, -1), api.ErrRange},
		{erase(0, 1, 8), api.ErrRange},
		{erase(0, 1, -1), api.ErrRange},
		{write(3, 1, 1, 1), api.ErrRange},
		{erase(-1, 1, 1), api.ErrRange},
		{write(0, 1, 8, 256), api.ErrRange},
		// The same ahead of what there is not.
		{erase(0, 0, 8), api.ErrRange},
		{erase(3, 0, 7), api.ErrRange},
		{erase(0, 3, 7), api.ErrRange},
		// A label in which it is not ahead of what there is not.
		{erase(0, 1, 7), api.ErrDenied},
		{erase(0, 1, 2), api.ErrDenied},
		{erase(2, 0, 1), api.ErrDenied},
		{write(0, 1, 1, 1), api.ErrDenied},
		// Several out of their ranges.
		{write(3, 3, 8, 256), api.ErrRange},
		{write(math.MinInt, math.MaxInt, math.MinInt, math.MaxInt), api.ErrRange},
		{erase(math.MaxInt, math.MinInt, math.MaxInt), api.ErrRange},
		{tell(3, -1), api.ErrRange},
		{tell(math.MinInt, math.MaxInt), api.ErrRange},
		// With nothing else wrong.
		{erase(0, 0, 7), api.ErrNone},
	} {
		three.isRefusedWithoutATrace(t, before, x.turn, x.want)
	}
}

func TestEachNumberOfEachTurnOutOfItsRange(t *testing.T) { // P10.1: the greatest and the least, too
	before := of(write(1, 2, 3, 5), write(1, 0, 0, 1), tell(1, 2))
	for _, n := range wild {
		for _, x := range []api.Turn{
			write(n, 2, 3, 5), write(1, n, 3, 5), write(1, 2, n, 5), write(1, 2, 3, n),
			erase(n, 2, 3), erase(1, n, 3), erase(1, 2, n), tell(n, 1), tell(1, n),
		} {
			three.isRefusedWithoutATrace(t, before, x, api.ErrRange)
			three.isRefusedWithoutATrace(t, nil, x, api.ErrRange)
		}
	}
}

func TestTheTimesOfWrites(t *testing.T) { // P10.1
	c := circle{2, []int{3, 3}}
	// The first of each label, and of each branch, has 1.
	c.isFine(t, of(write(0, 0, 4, 9), write(0, 1, 4, 8), write(1, 0, 5, 7), write(1, 1, 4, 6)),
		branch(many(note(4, 9, 1, 0)), many(note(4, 8, 1, 0))), branch(many(note(5, 7, 1, 1)), many(note(4, 6, 1, 1))))
	// Those behind it count on, under the same key and under others, and not by those of other labels or branches.
	c.isFine(t, of(write(0, 0, 4, 9), write(0, 0, 4, 9), write(0, 1, 0, 1), write(0, 0, 0, 3), write(1, 0, 4, 2), write(0, 0, 4, 1)),
		branch(many(note(0, 3, 3, 0), note(4, 1, 4, 0)), many(note(0, 1, 1, 0))), branch(many(note(4, 2, 1, 1)), nil))
	// The greatest of all counts, not the last one nor the one under the key.
	c.isFine(t, of(write(0, 0, 7, 1), write(0, 0, 0, 1), write(0, 0, 7, 2), write(0, 0, 3, 5)),
		branch(many(note(0, 1, 2, 0), note(3, 5, 4, 0), note(7, 2, 3, 0)), nil), branch(nil, nil))
	// What is refused takes no time.
	c.is(t, of(write(0, 0, 7, 1), write(0, 0, 7, 256), write(0, 0, 8, 1), erase(0, 0, 3), write(0, 0, 3, 5)),
		codes(api.OK, api.ErrRange, api.ErrRange, api.ErrNone, api.OK), branch(many(note(3, 5, 2, 0), note(7, 1, 1, 0)), nil), branch(nil, nil))
}

func TestAWriteBehindATellWithAGreaterTime(t *testing.T) { // P10.1
	c := circle{2, []int{3, 3}}
	up := times(5, write(0, 0, 6, 9))
	// Under another key, ahead and behind, and under the same.
	for key := range shelf {
		want := []api.Entry{note(key, 1, 6, 1)}
		if key < 6 {
			want = append(want, note(6, 9, 5, 0))
		} else if key > 6 {
			want = append(many(note(6, 9, 5, 0)), want...)
		}
		c.isFine(t, of(up, tell(0, 1), write(1, 0, key, 1)), branch(many(note(6, 9, 5, 0)), nil), branch(want, nil))
		// Of the other label it has none of it.
		c.isFine(t, of(up, tell(0, 1), write(1, 1, key, 1)), branch(many(note(6, 9, 5, 0)), nil), branch(many(note(6, 9, 5, 0)), many(note(key, 1, 1, 1))))
	}
	// So it is newer than what was told, wherever it comes to.
	c.isFine(t, of(up, tell(0, 1), write(1, 0, 6, 0), tell(1, 0), tell(0, 1)), branch(many(note(6, 0, 6, 1)), nil), branch(many(note(6, 0, 6, 1)), nil))
	// What is Gone has a time as well.
	c.isFine(t, of(up, erase(0, 0, 6), tell(0, 1), write(1, 0, 2, 1)), branch(many(gone(6, 6, 0)), nil), branch(many(note(2, 1, 7, 1), gone(6, 6, 0)), nil))
	// A lesser one that was told takes nothing of its own away.
	c.isFine(t, of(write(0, 0, 6, 9), write(1, 0, 1, 1), write(1, 0, 2, 2), tell(0, 1), write(1, 0, 3, 3)),
		branch(many(note(6, 9, 1, 0)), nil), branch(many(note(1, 1, 1, 1), note(2, 2, 2, 1), note(3, 3, 3, 1), note(6, 9, 1, 0)), nil))
}

func TestAWriteInsteadOfWhatWasThere(t *testing.T) { // P10.1
	c := circle{3, []int{7}}
	nothing := branch(nil)
	c.isFine(t, of(write(0, 0, 1, 200), write(0, 0, 1, 3)), branch(many(note(1, 3, 2, 0))), nothing, nothing)
	c.isFine(t, of(write(0, 0, 1, 3), write(0, 0, 1, 3)), branch(many(note(1, 3, 2, 0))), nothing, nothing)
	// Of another one, whose number is greater: it is by the one that wrote it last.
	c.isFine(t, of(write(2, 0, 1, 200), tell(2, 0), write(0, 0, 1, 0)), branch(many(note(1, 0, 2, 0))), nothing, branch(many(note(1, 200, 1, 2))))
	// Of what is Gone, by itself and by another one.
	c.isFine(t, of(write(0, 0, 1, 3), erase(0, 0, 1), write(0, 0, 1, 4)), branch(many(note(1, 4, 3, 0))), nothing, nothing)
	c.isFine(t, of(write(2, 0, 1, 3), erase(2, 0, 1), tell(2, 0), write(0, 0, 1, 0), tell(0, 2)),
		branch(many(note(1, 0, 3, 0))), nothing, branch(many(note(1, 0, 3, 0))))
	// Under the other keys all stays as it was.
	c.isFine(t, of(write(0, 0, 0, 1), write(0, 0, 1, 2), write(0, 0, 2, 3), write(0, 0, 1, 4)),
		branch(many(note(0, 1, 1, 0), note(1, 4, 4, 0), note(2, 3, 3, 0))), nothing, nothing)
}

func TestWhatAnEraseLeaves(t *testing.T) { // P10.1
	c := circle{2, []int{3}}
	for key := range shelf {
		for _, value := range []int{0, 1, highest} {
			// Of what it wrote itself, and of what was told by another one.
			c.isFine(t, of(write(0, 0, key, value), erase(0, 0, key)), branch(many(gone(key, 2, 0))), branch(nil))
			c.isFine(t, of(write(0, 0, key, value), tell(0, 1), erase(1, 0, key)), branch(many(note(key, value, 1, 0))), branch(many(gone(key, 2, 1))))
			// Its time counts on from the greatest of all.
			other := (key + 3) % shelf
			c.isFine(t, of(write(0, 0, key, value), tell(0, 1), times(4, write(0, 0, other, 7)), erase(0, 0, key), tell(0, 1), erase(1, 0, other)),
				branch(sorted(gone(key, 6, 0), note(other, 7, 5, 0))), branch(sorted(gone(key, 6, 0), gone(other, 7, 1))))
		}
	}
	// It goes on as all else, and nothing older comes back.
	c.isFine(t, of(write(0, 0, 1, 9), tell(0, 1), erase(1, 0, 1), tell(1, 0), tell(0, 1)), branch(many(gone(1, 2, 1))), branch(many(gone(1, 2, 1))))
	c.isFine(t, of(write(0, 0, 1, 9), tell(0, 1), erase(1, 0, 1), tell(0, 1)), branch(many(note(1, 9, 1, 0))), branch(many(gone(1, 2, 1))))
}

// sorted are entries in the order of their keys.
func sorted(l ...api.Entry) []api.Entry {
	slices.SortFunc(l, func(a, b api.Entry) int { return a.Key - b.Key })
	return l
}

func TestAnEraseOfWhatThereIsNot(t *testing.T) { // P10.1
	c := circle{2, []int{3, 3}}
	before := of(write(0, 0, 1, 9), write(0, 0, 3, 8), erase(0, 0, 3), write(0, 1, 5, 7), write(1, 0, 6, 6))
	c.is(t, before, fine(len(before)), branch(many(note(1, 9, 1, 0), gone(3, 3, 0)), many(note(5, 7, 1, 0))), branch(many(note(6, 6, 1, 1)), nil))
	// Where there never was any, of the other label, of the other branch, and where it is Gone.
	for _, key := range []int{0, 2, 3, 4, 5, 6, 7} {
		c.isRefusedWithoutATrace(t, before, erase(0, 0, key), api.ErrNone)
	}
	for _, key := range []int{0, 1, 2, 3, 4, 6, 7} {
		c.isRefusedWithoutATrace(t, before, erase(0, 1, key), api.ErrNone)
	}
	for key := range shelf {
		c.isRefusedWithoutATrace(t, before, erase(1, 1, key), api.ErrNone)
		c.isRefusedWithoutATrace(t, nil, erase(1, 1, key), api.ErrNone)
	}
	// Twice; and what another one took away.
	c.is(t, of(write(0, 0, 1, 9), erase(0, 0, 1), erase(0, 0, 1), erase(0, 0, 1)), codes(api.OK, api.OK, api.ErrNone, api.ErrNone), branch(many(gone(1, 2, 0)), nil), branch(nil, nil))
	c.is(t, of(write(0, 0, 1, 9), tell(0, 1), erase(0, 0, 1), tell(0, 1), erase(1, 0, 1)), codes(api.OK, api.OK, api.OK, api.OK, api.ErrNone),
		branch(many(gone(1, 2, 0)), nil), branch(many(gone(1, 2, 0)), nil))
	// Written again, it may be taken away again.
	c.isFine(t, of(write(0, 0, 1, 9), erase(0, 0, 1), write(0, 0, 1, 0), erase(0, 0, 1)), branch(many(gone(1, 4, 0)), nil), branch(nil, nil))
}

func TestATellToOneself(t *testing.T) { // P10.1
	c := circle{2, []int{3, 1, 2}}
	before := of(write(0, 0, 1, 9), write(0, 0, 2, 8), erase(0, 0, 1), write(0, 1, 7, 1), write(1, 0, 1, 3))
	zero, one := branch(many(gone(1, 3, 0), note(2, 8, 2, 0)), many(note(7, 1, 1, 0)), nil), branch(many(note(1, 3, 1, 1)), nil, nil)
	c.isFine(t, before, zero, one)
	c.isFine(t, of(before, tell(0, 0)), zero, one)
	c.isFine(t, of(before, tell(1, 1), tell(0, 0), tell(0, 0), tell(1, 1)), zero, one)
}

func TestTellsBackAndForthAndTwice(t *testing.T) { // P10.1
	c := circle{2, []int{3}}
	before := of(write(0, 0, 1, 9), write(0, 0, 4, 8), write(1, 0, 2, 7), write(1, 0, 4, 6), write(1, 0, 4, 5))
	zero, one := branch(many(note(1, 9, 1, 0), note(4, 8, 2, 0))), branch(many(note(2, 7, 1, 1), note(4, 5, 3, 1)))
	both := branch(many(note(1, 9, 1, 0), note(2, 7, 1, 1), note(4, 5, 3, 1)))
	c.isFine(t, before, zero, one)
	// Who tells has no more than it had.
	c.isFine(t, of(before, tell(0, 1)), zero, both)
	c.isFine(t, of(before, tell(1, 0)), both, one)
	c.isFine(t, of(before, tell(0, 1), tell(0, 1)), zero, both)
	c.isFine(t, of(before, tell(0, 1), tell(1, 0)), both, both)
	c.isFine(t, of(before, tell(1, 0), tell(0, 1), tell(1, 0), tell(0, 1), tell(0, 1)), both, both)
}

func TestWhatIsToldIsOlderThanWhatIsThere(t *testing.T) { // P10.1
	c := circle{2, []int{3}}
	c.isFine(t, of(write(0, 0, 1, 200), tell(0, 1), write(1, 0, 1, 3), tell(0, 1)), branch(many(note(1, 200, 1, 0))), branch(many(note(1, 3, 2, 1))))
	c.isFine(t, of(write(1, 0, 1, 200), write(0, 0, 2, 5), write(0, 0, 1, 3), tell(1, 0)), branch(many(note(1, 3, 2, 0), note(2, 5, 1, 0))), branch(many(note(1, 200, 1, 1))))
	// Of the same Time that of the greater Who stays, whichever way it is told.
	c.isFine(t, of(write(0, 0, 1, 200), write(1, 0, 1, 3), tell(0, 1)), branch(many(note(1, 200, 1, 0))), branch(many(note(1, 3, 1, 1))))
	c.isFine(t, of(write(0, 0, 1, 200), write(1, 0, 1, 3), tell(1, 0)), branch(many(note(1, 3, 1, 1))), branch(many(note(1, 3, 1, 1))))
	// Some of it older, some newer.
	c.isFine(t, of(write(0, 0, 1, 10), tell(0, 1), write(0, 0, 2, 20), write(1, 0, 1, 11), tell(0, 1)),
		branch(many(note(1, 10, 1, 0), note(2, 20, 2, 0))), branch(many(note(1, 11, 2, 1), note(2, 20, 2, 0))))
}

func TestTellsByTheLabelsThatTwoShare(t *testing.T) { // P10.1
	// All of the labels that 0, 1 or 2 are in, four at a time: what 0 wrote comes to 1 under those in which both are, and to nobody else.
	for choice := range 8 * 8 * 8 * 8 {
		c := circle{3, []int{choice & 7, choice >> 3 & 7, choice >> 6 & 7, choice >> 9 & 7}}
		var l []api.Turn
		var want []api.Errno
		zero, one := make([][]api.Entry, tags), make([][]api.Entry, tags)
		for label := range tags {
			l, want = append(l, write(0, label, label, 10+label)), append(want, api.ErrDenied)
			if c.isIn(0, label) {
				want[label] = api.OK
				zero[label] = many(note(label, 10+label, 1, 0))
			}
			if c.isIn(0, label) && c.isIn(1, label) {
				one[label] = many(note(label, 10+label, 1, 0))
			}
		}
		c.is(t, of(l, tell(0, 1)), append(want, api.OK), zero, one, make([][]api.Entry, tags))
	}
}

func TestWhatIsToldOn(t *testing.T) { // P10.1
	c := circle{4, []int{15}}
	has, nothing := branch(many(note(1, 9, 1, 0))), branch(nil)
	// By one who was told, in the order in which they tell, and not against it.
	c.isFine(t, of(write(0, 0, 1, 9), tell(0, 1), tell(1, 2), tell(2, 3)), has, has, has, has)
	c.isFine(t, of(write(0, 0, 1, 9), tell(2, 3), tell(1, 2), tell(0, 1)), has, has, nothing, nothing)
	// What a branch does later is not told by what it told already.
	c.isFine(t, of(write(0, 0, 1, 9), tell(0, 1), erase(0, 0, 1), tell(1, 2)), branch(many(gone(1, 2, 0))), has, has, nothing)
	// What is told on stays by whom it is, and of its time.
	c.isFine(t, of(write(3, 0, 1, 9), write(3, 0, 1, 8), tell(3, 0), tell(0, 1), write(1, 0, 2, 7), tell(1, 2)),
		branch(many(note(1, 8, 2, 3))), branch(many(note(1, 8, 2, 3), note(2, 7, 3, 1))), branch(many(note(1, 8, 2, 3), note(2, 7, 3, 1))), branch(many(note(1, 8, 2, 3))))
	// By one who is not in the label nothing is told on, whomever it tells.
	d := circle{3, []int{5, 3}}
	zero := branch(many(note(1, 9, 1, 0)), many(note(2, 8, 1, 0)))
	d.isFine(t, of(write(0, 0, 1, 9), write(0, 1, 2, 8), tell(0, 1), tell(1, 2), tell(1, 0)), zero, branch(nil, many(note(2, 8, 1, 0))), branch(nil, nil))
	d.isFine(t, of(write(0, 0, 1, 9), write(0, 1, 2, 8), tell(0, 1), tell(1, 2), tell(0, 2), tell(2, 1)), zero, branch(nil, many(note(2, 8, 1, 0))), branch(many(note(1, 9, 1, 0)), nil))
}

func TestTheSameLabelTwiceIsKeptApart(t *testing.T) { // P10.1
	c := circle{2, []int{3, 3}}
	c.is(t, of(write(0, 0, 1, 9), write(0, 1, 1, 8), write(0, 1, 1, 7), erase(0, 0, 1), erase(0, 0, 1), tell(0, 1), erase(1, 1, 1), write(1, 0, 1, 6)),
		codes(api.OK, api.OK, api.OK, api.OK, api.ErrNone, api.OK, api.OK, api.OK),
		branch(many(gone(1, 2, 0)), many(note(1, 7, 2, 0))), branch(many(note(1, 6, 3, 1)), many(gone(1, 3, 1))))
	// As many as there may be, of which each has a key of its own.
	d := circle{crowd, slices.Repeat([]int{255}, tags)}
	has := branch(many(note(0, 0, 1, 7)), many(note(1, 1, 1, 7)), many(note(2, 2, 1, 7)), many(note(3, 3, 1, 7)))
	d.isFine(t, of(write(7, 0, 0, 0), write(7, 1, 1, 1), write(7, 2, 2, 2), write(7, 3, 3, 3), d.allTell()), slices.Repeat([][][]api.Entry{has}, crowd)...)
}

func TestTheOrderOfEntries(t *testing.T) { // P10.1, P4.1
	c := circle{2, []int{3}}
	r := rand.New(rand.NewSource(1))
	for range 300 {
		// All keys in any order, some by 0, some by 1, some taken away.
		var l []api.Turn
		var time [2]int
		zero, one := []api.Entry{}, []api.Entry{}
		for _, key := range r.Perm(shelf) {
			who := r.Intn(2)
			l = append(l, write(who, 0, key, key))
			time[who]++
			e := note(key, key, time[who], who)
			if r.Intn(3) == 0 {
				l = append(l, erase(who, 0, key))
				time[who]++
				e = gone(key, time[who], who)
			}
			if who == 0 {
				zero = append(zero, e)
			} else {
				one = append(one, e)
			}
		}
		both := branch(sorted(slices.Concat(zero, one)...))
		c.isFine(t, l, branch(sorted(zero...)), branch(sorted(one...)))
		c.isFine(t, of(l, tell(0, 1)), branch(sorted(zero...)), both)
		c.isFine(t, of(l, tell(1, 0), tell(0, 1)), both, both)
	}
}

func TestWhatEachHasAtTheEnd(t *testing.T) { // P10.1
	// 3 did nothing and was told nothing; 4 did nothing and was told; 5 is in no label.
	c := circle{6, []int{31, 17, 0, 8}}
	c.is(t, of(write(0, 0, 1, 9), write(0, 1, 2, 8), write(1, 0, 3, 7), write(1, 1, 3, 7), tell(0, 4), tell(1, 4), tell(4, 5), write(5, 2, 0, 0), tell(5, 2)),
		codes(api.OK, api.OK, api.OK, api.ErrDenied, api.OK, api.OK, api.OK, api.ErrDenied, api.OK),
		branch(many(note(1, 9, 1, 0)), many(note(2, 8, 1, 0)), nil, nil),
		branch(many(note(3, 7, 1, 1)), nil, nil, nil),
		branch(nil, nil, nil, nil),
		branch(nil, nil, nil, nil),
		branch(many(note(1, 9, 1, 0), note(3, 7, 1, 1)), many(note(2, 8, 1, 0)), nil, nil),
		branch(nil, nil, nil, nil))
}

// reckoner keeps all that each branch ever knew of each label, and reckons from that what it has.
type reckoner struct {
	circle
	knows [][][]api.Entry
}

func reckonerOf(c circle) *reckoner {
	k := &reckoner{circle: c, knows: make([][][]api.Entry, c.branches)}
	for who := range k.knows {
		k.knows[who] = make([][]api.Entry, len(c.labels))
	}
	return k
}

// rank is what is asked of an entry, in the order named: the greater list is of what is newer.
func rank(e api.Entry) []int {
	here := 1
	if e.Gone {
		here = 0
	}
	return []int{e.Time, e.Who, here, e.Value}
}

// under is the newest of a key that a branch ever knew; none, if there is none.
func (k *reckoner) under(who, label, key int) []api.Entry {
	var best []api.Entry
	for _, e := range k.knows[who][label] {
		if e.Key == key && (len(best) == 0 || slices.Compare(rank(e), rank(best[0])) > 0) {
			best = many(e)
		}
	}
	return best
}

func (k *reckoner) has() [][][]api.Entry {
	all := make([][][]api.Entry, k.branches)
	for who := range all {
		all[who] = make([][]api.Entry, len(k.labels))
		for label := range all[who] {
			for key := range shelf {
				all[who][label] = append(all[who][label], k.under(who, label, key)...)
			}
		}
	}
	return all
}

func outside(n, count int) bool { return n < 0 || n >= count }

func (k *reckoner) refuse(x api.Turn) api.Errno {
	switch {
	case x.Kind < 1 || x.Kind > 3:
		return api.ErrKind
	case outside(x.Who, k.branches):
		return api.ErrRange
	case x.Kind == api.Tell && outside(x.To, k.branches):
		return api.ErrRange
	case x.Kind == api.Tell:
		return api.OK
	case outside(x.Label, len(k.labels)) || outside(x.Key, shelf) || x.Kind == api.Write && outside(x.Value, highest+1):
		return api.ErrRange
	case !k.isIn(x.Who, x.Label):
		return api.ErrDenied
	}
	if at := k.under(x.Who, x.Label, x.Key); x.Kind == api.Erase && (len(at) == 0 || at[0].Gone) {
		return api.ErrNone
	}
	return api.OK
}

func (k *reckoner) do(x api.Turn) api.Errno {
	if code := k.refuse(x); code != api.OK {
		return code
	}
	if x.Kind == api.Tell {
		for label := range k.labels {
			if k.isIn(x.Who, label) && k.isIn(x.To, label) {
				k.learn(x.To, label, k.knows[x.Who][label]...)
			}
		}
		return api.OK
	}
	time := 0
	for _, e := range k.knows[x.Who][x.Label] {
		time = max(time, e.Time)
	}
	e := note(x.Key, x.Value, time+1, x.Who)
	if x.Kind == api.Erase {
		e = gone(x.Key, time+1, x.Who)
	}
	k.learn(x.Who, x.Label, e)
	return api.OK
}

func (k *reckoner) learn(who, label int, l ...api.Entry) {
	for _, e := range l {
		if !slices.Contains(k.knows[who][label], e) {
			k.knows[who][label] = append(k.knows[who][label], e)
		}
	}
}

// isReckoned compares a play with what is reckoned.
func isReckoned(t *testing.T, c circle, l []api.Turn) []api.Errno {
	t.Helper()
	k := reckonerOf(c)
	told, has := c.play(t, l)
	for i, x := range l {
		if want := k.do(x); told[i] != want {
			t.Fatalf("Play(%v, %v): the turn %d comes to %d, want %d", c, l[:i+1], i, told[i], want)
		}
	}
	if want := k.has(); !sameStores(has, want) {
		t.Fatalf("Play(%v, %v): at last %v, want %v", c, l, has, want)
	}
	return told
}

func TestAllShortPlays(t *testing.T) { // P10.1
	for _, x := range []struct {
		circle
		each []api.Turn
	}{
		{circle{2, []int{3}}, of(write(0, 0, 0, 1), write(1, 0, 0, 2), write(1, 0, 1, 3), erase(0, 0, 0), erase(1, 0, 0), tell(0, 1), tell(1, 0))},
		{circle{3, []int{7, 6}}, of(write(0, 0, 0, 1), write(1, 1, 0, 2), erase(2, 0, 0), erase(2, 1, 0), tell(0, 1), tell(1, 2), tell(2, 0))},
	} {
		all := [][]api.Turn{nil}
		for range 6 {
			var longer [][]api.Turn
			for _, l := range all {
				for _, turn := range x.each {
					longer = append(longer, of(l, turn))
				}
			}
			all = longer
		}
		// Each shorter one is the beginning of one of these, whose end is compared by itself.
		for _, l := range all {
			isReckoned(t, x.circle, l)
		}
		for i := 0; i < len(all); i += len(x.each) {
			isReckoned(t, x.circle, all[i][:5])
		}
	}
}

// anyCircle takes branches and labels by chance, the same at each run.
func anyCircle(r *rand.Rand) circle {
	c := circle{branches: 1 + r.Intn(crowd)}
	for range r.Intn(tags + 1) {
		s := 0
		for who := range c.branches {
			// Most branches are in most labels.
			if r.Intn(4) > 0 {
				s |= 1 << who
			}
		}
		c.labels = append(c.labels, s)
	}
	return c
}

// anyPlay takes turns by chance, the same at each run; some are out of their range.
func anyPlay(r *rand.Rand, c circle, n int) []api.Turn {
	var l []api.Turn
	keys := 1 + r.Intn(shelf)
	for range n {
		x := api.Turn{Kind: 1 + r.Intn(3), Who: r.Intn(c.branches), Key: r.Intn(keys)}
		switch x.Kind {
		case api.Tell:
			x.To = r.Intn(c.branches)
		case api.Write:
			x.Value = r.Intn(highest + 1)
		}
		if len(c.labels) > 0 {
			x.Label = r.Intn(len(c.labels))
		}
		spoilt := []*int{&x.Kind, &x.Who, &x.To, &x.Label, &x.Key, &x.Value}
		if r.Intn(12) == 0 {
			*spoilt[r.Intn(len(spoilt))] = anyNumbers[r.Intn(len(anyNumbers))]
		}
		l = append(l, x)
	}
	return l
}

func TestManyPlays(t *testing.T) { // P10.1
	r := rand.New(rand.NewSource(10))
	seen := map[[2]int]int{}
	for range 600 {
		c := anyCircle(r)
		l := anyPlay(r, c, r.Intn(deeds+1))
		for i, code := range isReckoned(t, c, l) {
			seen[[2]int{l[i].Kind, int(code)}]++
		}
	}
	for kind, all := range map[int][]api.Errno{
		api.Write: {api.OK, api.ErrRange, api.ErrDenied},
		api.Erase: {api.OK, api.ErrRange, api.ErrDenied, api.ErrNone},
		api.Tell:  {api.OK, api.ErrRange},
		0:         {api.ErrKind},
	} {
		for _, code := range all {
			if seen[[2]int{kind, int(code)}] < 20 {
				t.Errorf("the kind %d came to %d in %d turns: they are badly chosen", kind, code, seen[[2]int{kind, int(code)}])
			}
		}
	}
}

func TestAllOfALabelComeToTheSame(t *testing.T) { // P10.1: 'What comes of it'
	r := rand.New(rand.NewSource(11))
	for range 200 {
		c := anyCircle(r)
		l := anyPlay(r, c, r.Intn(100))
		// All tell one, and one tells all: whoever that is, in whatever order, and however often.
		var ends [][][][]api.Entry
		for one := range c.branches {
			k := slices.Clone(l)
			for _, who := range append(r.Perm(c.branches), r.Perm(c.branches)...) {
				k = append(k, tell(who, one))
			}
			for _, who := range r.Perm(c.branches) {
				k = append(k, tell(one, who))
			}
			_, has := c.play(t, k)
			for label := range c.labels {
				for who := range has {
					if c.isIn(who, label) && c.isIn(one, label) && !slices.Equal(has[who][label], has[one][label]) {
						t.Fatalf("Play(%v, %v): %d and %d have %v of the label %d", c, k, who, one, has, label)
					}
				}
			}
		}
		for range 3 {
			var k []api.Turn
			for _, i := range r.Perm(c.branches * c.branches) {
				k = append(k, tell(i/c.branches, i%c.branches))
			}
			_, has := c.play(t, of(l, k, c.allTell()))
			ends = append(ends, has)
		}
		if !sameStores(ends[0], ends[1]) || !sameStores(ends[0], ends[2]) {
			t.Fatalf("%v behind %v: they come to %v", c, l, ends)
		}
	}
}

// without takes out what is written and erased under some label.
func without(l []api.Turn, is func(label int) bool) []api.Turn {
	return slices.DeleteFunc(slices.Clone(l), func(x api.Turn) bool {
		return (x.Kind == api.Write || x.Kind == api.Erase) && is(x.Label)
	})
}

func TestLabelsHangOnNothingOfEachOther(t *testing.T) { // P10.1: 'apart for each label'
	r := rand.New(rand.NewSource(12))
	for range 200 {
		c := anyCircle(r)
		l := anyPlay(r, c, r.Intn(150))
		_, has := c.play(t, l)
		for label := range c.labels {
			_, alone := c.play(t, without(l, func(other int) bool { return other != label }))
			for who := range has {
				if !slices.Equal(has[who][label], alone[who][label]) {
					t.Fatalf("Play(%v, %v): %d has %v of the label %d, and %v without the others", c, l, who, has[who][label], label, alone[who][label])
				}
			}
		}
		// And what a branch has, on nothing of the labels in which it is not.
		for who := range has {
			_, own := c.play(t, without(l, func(label int) bool { return !outside(label, len(c.labels)) && !c.isIn(who, label) }))
			if !sameBranch(has[who], own[who]) {
				t.Fatalf("Play(%v, %v): %d has %v, and %v without what it may not read", c, l, who, has[who], own[who])
			}
		}
	}
}

func TestNothingIsKeptFromCallToCall(t *testing.T) { // 'What holds everywhere'
	c := circle{2, []int{3}}
	for range 3 {
		c.isFine(t, of(write(0, 0, 1, 9), tell(0, 1)), branch(many(note(1, 9, 1, 0))), branch(many(note(1, 9, 1, 0))))
		c.isRefused(t, times(deeds+1, write(0, 0, 1, 9)), api.ErrSize)
		circle{2, []int{4}}.isRefused(t, of(write(0, 0, 1, 9)), api.ErrRange)
		c.is(t, of(erase(0, 0, 1), erase(1, 0, 1)), codes(api.ErrNone, api.ErrNone), branch(nil), branch(nil))
	}
}

// wholePlay is one that may be, or may not.
type wholePlay struct {
	circle
	turns []api.Turn
}

func wholePlays() []wholePlay {
	r := rand.New(rand.NewSource(13))
	var plays []wholePlay
	for _, l := range append(somePlays, times(deeds+1, tell(0, 1))) {
		plays = append(plays, wholePlay{three, l}, wholePlay{circle{2, nil}, l}, wholePlay{circle{0, []int{1}}, l}, wholePlay{circle{2, []int{4}}, l}, wholePlay{circle{2, []int{1, 1, 1, 1, 1}}, l})
	}
	for range 200 {
		c := anyCircle(r)
		plays = append(plays, wholePlay{c, anyPlay(r, c, r.Intn(60))})
	}
	return plays
}

// roomy lays a list where there is room behind it that is not empty; all is the list with that room.
func roomy[T any](l []T, with T) (list, all []T) {
	all = append(slices.Clone(l), slices.Repeat([]T{with}, 8)...)
	return all[:len(l)], all
}

// handed lays what is handed in where there is room behind it.
func (p wholePlay) handed() (labels, allLabels []int, turns, allTurns []api.Turn) {
	labels, allLabels = roomy(p.labels, 77)
	turns, allTurns = roomy(p.turns, api.Turn{Kind: 71, Who: 72, To: 73, Label: 74, Key: 75, Value: 76})
	return labels, allLabels, turns, allTurns
}

func TestListsAndTheRoomBehindThemAreLeft(t *testing.T) { // 'What holds everywhere'
	for _, p := range wholePlays() {
		labels, allLabels, turns, allTurns := p.handed()
		labels2, turns2 := slices.Clone(allLabels), slices.Clone(allTurns)
		gossip.Play(p.branches, labels, turns)
		if !slices.Equal(allLabels, labels2) || !slices.Equal(allTurns, turns2) {
			t.Errorf("Play(%v) made %v and %v of %v and %v", p.circle, allLabels, allTurns, labels2, turns2)
		}
	}
}

// spoil writes over a list and the room behind it.
func spoil[T any](l []T, with T) {
	l = l[:cap(l)]
	for i := range l {
		l[i] = with
	}
}

func TestWhatIsHandedInIsNotKept(t *testing.T) { // 'What holds everywhere'
	for _, p := range wholePlays() {
		labels, allLabels, turns, allTurns := p.handed()
		told, has, _ := gossip.Play(p.branches, labels, turns)
		want := fmt.Sprint(told, has)
		spoil(allLabels, -9)
		spoil(allTurns, api.Turn{Kind: -9})
		if fmt.Sprint(told, has) != want {
			t.Errorf("Play(%v, %v) keeps what it was handed", p.circle, p.turns)
		}
	}
}

// spoilAll writes over all that was answered, from within outwards.
func spoilAll(told []api.Errno, has [][][]api.Entry) {
	wrong := note(-9, -9, -9, -9)
	spoil(told, -9)
	for _, b := range has {
		for _, l := range b {
			spoil(l, wrong)
		}
		spoil(b, many(wrong))
	}
	spoil(has, branch(many(wrong)))
}

func TestAnswersAreNewMemory(t *testing.T) { // 'What holds everywhere'
	for _, p := range wholePlays() {
		labels, allLabels, turns, allTurns := p.handed()
		labels2, turns2 := slices.Clone(allLabels), slices.Clone(allTurns)
		told, has, _ := gossip.Play(p.branches, labels, turns)
		told2, has2, _ := gossip.Play(p.branches, labels, turns)
		want := fmt.Sprint(told2, has2)
		spoilAll(told, has)
		if !slices.Equal(allLabels, labels2) || !slices.Equal(allTurns, turns2) || fmt.Sprint(told2, has2) != want {
			t.Errorf("Play(%v, %v): a change of one answer is seen elsewhere", p.circle, p.turns)
		}
	}
}

func TestNoTwoListsOfOneAnswerShareAny(t *testing.T) { // 'What holds everywhere'
	for _, p := range wholePlays() {
		// All tell all, so that many have the same.
		l := p.turns
		if p.branches > 0 && len(l)+p.branches*p.branches <= deeds {
			l = of(l, p.allTell())
		}
		_, has, _ := gossip.Play(p.branches, p.labels, l)
		for who := range has {
			for label := range has[who] {
				copied := deepCopy(has)
				spoil(has[who][label], note(-9, who, label, -9))
				copied[who][label] = slices.Clone(whole(has[who][label]))
				if !sameStores(deepCopy(has), copied) {
					t.Fatalf("Play(%v, %v): what %d has of the label %d is shared", p.circle, l, who, label)
				}
			}
		}
		for who := range has {
			copied := deepCopy(has)
			spoil(has[who], many(note(-9, who, -9, -9)))
			copied[who] = slices.Clone(has[who])
			if !sameStores(deepCopy(has), copied) {
				t.Fatalf("Play(%v, %v): the lists of %d are shared", p.circle, l, who)
			}
		}
	}
}

// whole is a list with the room behind it.
func whole(l []api.Entry) []api.Entry { return l[:cap(l)] }

// deepCopy copies the room behind each list of entries, too.
func deepCopy(has [][][]api.Entry) [][][]api.Entry {
	all := make([][][]api.Entry, len(has))
	for who := range has {
		for _, l := range has[who] {
			all[who] = append(all[who], slices.Clone(whole(l)))
		}
	}
	return all
}

func TestAStoreTakesMoreTurnsThanAPlay(t *testing.T) { // a branch's entries, which layer 12 asks for
	s := gossip.NewStore(1, three.labels)
	for i := range 2 * deeds {
		if code := s.Write(0, i%shelf, i%(highest+1)); code != api.OK {
			t.Fatalf("the write %d comes to %d", i, code)
		}
		if value, code := s.Value(0, i%shelf); value != i%(highest+1) || code != api.OK {
			t.Fatalf("behind the write %d there is %d, and %d", i, value, code)
		}
	}
	if got := s.Entries()[0]; len(got) != shelf || got[shelf-1] != note(7, 599%256, 600, 1) {
		t.Errorf("at last there is %v", got)
	}
}

func TestWhatAStoreHears(t *testing.T) { // the same
	s := gossip.NewStore(1, three.labels)
	s.Write(0, 1, 5)
	told := branch(many(note(1, 6, 1, 0), note(2, 7, 2, 0)), many(note(3, 8, 1, 0)), many(gone(4, 3, 0), note(5, 9, 1, 2)))
	s.Hear(0, told)
	// Of 0 nothing under the label of 1 and 2.
	want := branch(many(note(1, 5, 1, 1), note(2, 7, 2, 0)), nil, many(gone(4, 3, 0), note(5, 9, 1, 2)))
	if got := s.Entries(); !sameBranch(got, want) {
		t.Errorf("it has %v, want %v", got, want)
	}
	// Neither what is told nor what is answered is kept.
	spoil(told[0], gone(9, 9, 9))
	for _, l := range s.Entries() {
		spoil(l, gone(9, 9, 9))
	}
	if got := s.Entries(); !sameBranch(got, want) {
		t.Errorf("it has %v, want %v", got, want)
	}
}

func TestTheValuesOfAStore(t *testing.T) { // the same
	s := gossip.NewStore(1, []int{3, 1})
	s.Write(0, 1, 5)
	s.Hear(0, branch(many(gone(2, 1, 0), note(3, 4, 1, 0)), nil))
	is := func(label, key, value int, want api.Errno) {
		t.Helper()
		if got, code := s.Value(label, key); got != value || code != want {
			t.Errorf("under the label %d and the key %d there is %d, and %d; want %d and %d", label, key, got, code, value, want)
		}
	}
	is(0, 1, 5, api.OK)
	is(0, 3, 4, api.OK)
	is(0, 2, 0, api.ErrNone)
	is(0, 7, 0, api.ErrNone)
	is(1, 1, 0, api.ErrDenied)
	for _, n := range wild {
		is(n, 1, 0, api.ErrRange)
		is(0, n, 0, api.ErrRange)
		is(1, n, 0, api.ErrRange)
	}
}

// Example: as README.md tells it.
func Example() {
	told, has, _ := gossip.Play(3, []int{3, 6}, []api.Turn{
		{Kind: api.Write, Who: 0, Label: 0, Key: 1, Value: 5},
		{Kind: api.Tell, Who: 0, To: 1},
		{Kind: api.Write, Who: 1, Label: 0, Key: 1, Value: 6},
		{Kind: api.Write, Who: 1, Label: 1, Key: 2, Value: 7},
		{Kind: api.Tell, Who: 1, To: 2},
		{Kind: api.Erase, Who: 0, Label: 0, Key: 1},
		{Kind: api.Write, Who: 0, Label: 1, Key: 2, Value: 8},
		{Kind: api.Erase, Who: 0, Label: 0, Key: 1},
	})
	fmt.Println(told)
	for _, b := range has {
		fmt.Println(b)
	}
	// Output:
	// [0 0 0 0 0 0 11 6]
	// [[{1 0 2 0 true}] []]
	// [[{1 6 2 1 false}] [{2 7 1 1 false}]]
	// [[] [{2 7 1 1 false}]]
}
