package seal_test

import (
	"bytes"
	"fmt"
	"math"
	"math/rand"
	"slices"
	"testing"

	"splittally/api"
	"splittally/seal"
)

// The limits, written out: MaxBranches, MaxRecord times MaxBranches, and MaxDeeds.
const (
	broker  = 8
	longest = 256
	deeds   = 300
)

// noParties are next to the ends, what wraps round to a party, and the ends of all numbers.
var noParties = []int{-1, -2, -8, -9, broker + 1, broker + 2, 16, 255, 256, 257, 1 << 32, 1<<32 + 1, 1<<32 - 1, -1 << 32, math.MaxInt - 1, math.MaxInt, math.MinInt, math.MinInt + 1}

var noKinds = []int{0, -1, -2, 3, 4, 256, 257, 258, 1 << 32, 1<<32 + 1, 1<<32 + 2, math.MaxInt, math.MinInt, math.MinInt + 1}

// noIds are no numbers of letters, however many there are.
var noIds = []int{-1, -2, -256, -1 << 32, 1<<32 - 1, deeds, deeds + 1, 65536, 1 << 32, 1<<32 + 1, math.MaxInt - 1, math.MaxInt, math.MinInt, math.MinInt + 1}

func post(from, to int, data ...byte) api.Letter {
	return api.Letter{Kind: api.Post, From: from, To: to, Data: data}
}

func open(to, id int) api.Letter { return api.Letter{Kind: api.Open, To: to, Id: id} }

// of makes one list of moves and lists of moves.
func of(parts ...any) []api.Letter {
	var l []api.Letter
	for _, p := range parts {
		switch x := p.(type) {
		case api.Letter:
			l = append(l, x)
		case []api.Letter:
			l = append(l, x...)
		}
	}
	return l
}

func times(n int, m api.Letter) []api.Letter { return slices.Repeat([]api.Letter{m}, n) }

// text is so many bytes, of which two that stand side by side are never the same.
func text(n int, first byte) []byte {
	b := make([]byte, n)
	for i := range b {
		b[i] = first + byte(3*i)
	}
	return b
}

func posted(id, size int) api.Opened { return api.Opened{Id: id, Size: size} }

func opened(id int, data ...byte) api.Opened {
	return api.Opened{Id: id, Size: len(data), Data: data}
}

func refused(code api.Errno) api.Opened { return api.Opened{Code: code} }

func same(a, b api.Opened) bool {
	return a.Code == b.Code && a.Id == b.Id && a.Size == b.Size && bytes.Equal(a.Data, b.Data)
}

func play(t *testing.T, l []api.Letter) []api.Opened {
	t.Helper()
	got, code := seal.Play(l)
	if code != api.OK || len(got) != len(l) {
		t.Fatalf("Play(%v): %d answers, and %d; want %d and 0", l, len(got), code, len(l))
	}
	return got
}

// isPlay compares all that is told.
func isPlay(t *testing.T, l []api.Letter, want ...api.Opened) {
	t.Helper()
	if got := play(t, l); !slices.EqualFunc(got, want, same) {
		t.Errorf("Play(%v):\n%v, want\n%v", l, got, want)
	}
}

// isLast compares what is told of the last moves.
func isLast(t *testing.T, l []api.Letter, want ...api.Opened) {
	t.Helper()
	got := play(t, l)
	if last := got[len(got)-len(want):]; !slices.EqualFunc(last, want, same) {
		t.Errorf("Play(%v): at last %v, want %v", l, last, want)
	}
}

// isRefusedWithoutATrace compares a move's answer, and checks that all behind it comes to the same as without it.
func isRefusedWithoutATrace(t *testing.T, before []api.Letter, m api.Letter, want api.Errno) {
	t.Helper()
	behind := of(post(0, 1, 61), post(2, 1, 62, 63))
	for to := range 4 {
		for id := range len(before) + 3 {
			behind = of(behind, open(to, id))
		}
	}
	behind = of(behind, post(0, 1, 64), open(1, 0), open(1, len(before)+2))
	with, without := play(t, of(before, m, behind)), play(t, of(before, behind))
	if got := with[len(before)]; !same(got, refused(want)) {
		t.Errorf("behind %v: %v comes to %v, want %v", before, m, got, refused(want))
	}
	if got := slices.Delete(slices.Clone(with), len(before), len(before)+1); !slices.EqualFunc(got, without, same) {
		t.Errorf("behind %v: %v leaves a trace: %v, want %v", before, m, got, without)
	}
}

func TestWithoutMovesNothingIsTold(t *testing.T) { // P8.1
	isPlay(t, nil)
	isPlay(t, []api.Letter{})
}

func TestOneMove(t *testing.T) { // P8.1
	isPlay(t, of(post(0, 1, 7)), posted(0, 1))
	isPlay(t, of(open(1, 0)), refused(api.ErrNone))
	isPlay(t, of(api.Letter{}), refused(api.ErrKind))
	isPlay(t, of(post(9, 0)), refused(api.ErrRange))
	isPlay(t, of(open(9, 0)), refused(api.ErrRange))
	isPlay(t, of(post(0, 1, text(longest+1, 1)...)), refused(api.ErrSize))
}

func TestPlaysByTheCountOfMoves(t *testing.T) { // P8.1
	for _, n := range []int{1, 2, 150, deeds - 1, deeds} {
		for i, x := range play(t, times(n, post(3, 4, 5, 6))) {
			if !same(x, posted(i, 2)) {
				t.Errorf("the Post %d of %d comes to %v", i, n, x)
			}
		}
	}
	isLast(t, of(times(deeds-1, post(3, 4, 5, 6)), open(4, deeds-2)), opened(deeds-2, 5, 6))
	isLast(t, times(deeds, api.Letter{}), refused(api.ErrKind))
	for _, n := range []int{deeds + 1, deeds + 2, 2 * deeds, 65536, 65536 + deeds} {
		for _, m := range []api.Letter{post(0, 1, 7), open(1, 0), post(9, 1), open(-1, 0), post(0, 1, text(longest+1, 1)...), {}, {Kind: math.MinInt, To: math.MaxInt}} {
			if got, code := seal.Play(times(n, m)); len(got) != 0 || code != api.ErrSize {
				t.Errorf("%d times %v: %v %d, want none and %d", n, m, got, code, api.ErrSize)
			}
		}
	}
}

func TestWhatIsToldBehindEachKindOfMove(t *testing.T) { // P8.1
	isPlay(t,
		of(post(0, 1, 7), open(1, 0), post(2, 1), post(1, 8, 4, 5, 6), open(8, 2), open(1, 1), open(8, 2), open(0, 1), open(0, 3), post(0, 9, 1), open(9, 2), api.Letter{Kind: 3, To: 1, Data: []byte{1}}, post(0, 1, text(longest+1, 1)...), post(0, 1, 9, 9)),
		posted(0, 1),
		opened(0, 7),
		posted(1, 0),
		posted(2, 3),
		opened(2, 4, 5, 6),
		opened(1),
		refused(api.ErrOld),
		refused(api.ErrDenied),
		refused(api.ErrNone),
		refused(api.ErrRange),
		refused(api.ErrRange),
		refused(api.ErrKind),
		refused(api.ErrSize),
		posted(3, 2),
	)
}

func TestAllParties(t *testing.T) { // P8.1: from 0 to MaxBranches; for itself, too
	for from := range broker + 1 {
		for to := range broker + 1 {
			for other := range broker + 1 {
				want := refused(api.ErrDenied)
				if other == to {
					want = opened(0, 31, byte(from))
				}
				isPlay(t, of(post(from, to, 31, byte(from)), open(other, 0)), posted(0, 2), want)
			}
		}
	}
}

func TestOneWhoPostsForItself(t *testing.T) { // P8.1
	for _, who := range []int{0, 5, broker} {
		isPlay(t, of(post(who, who, 1), post(who, who, 2), open(who, 1), open(who, 0), open(who, 1)), posted(0, 1), posted(1, 1), opened(1, 2), refused(api.ErrOld), refused(api.ErrOld))
	}
}

func TestPartiesThatThereAreNot(t *testing.T) { // P8.1
	before := of(post(0, 1, 7), post(1, 0, 8), post(0, 1, 9), open(1, 0))
	for _, n := range noParties {
		for _, ok := range []int{0, 1, broker} {
			isRefusedWithoutATrace(t, before, post(n, ok, 5), api.ErrRange)
			isRefusedWithoutATrace(t, before, post(ok, n, 5), api.ErrRange)
		}
		for _, m := range noParties {
			isRefusedWithoutATrace(t, before, post(n, m, 5), api.ErrRange)
		}
		for id := range 3 {
			isRefusedWithoutATrace(t, before, open(n, id), api.ErrRange)
		}
	}
}

func TestKindsThatThereAreNot(t *testing.T) { // P8.1
	before := of(post(0, 1, 7), post(1, 0, 8), post(0, 1, 9), open(1, 0))
	for _, kind := range noKinds {
		isRefusedWithoutATrace(t, before, api.Letter{Kind: kind}, api.ErrKind)
		isRefusedWithoutATrace(t, before, api.Letter{Kind: kind, From: 0, To: 1, Id: 2, Data: []byte{1, 2}}, api.ErrKind)
		for _, wrong := range noParties {
			isRefusedWithoutATrace(t, before, api.Letter{Kind: kind, From: wrong, To: wrong, Id: wrong, Data: text(longest+1, 1)}, api.ErrKind)
		}
	}
}

func TestHowLongLettersAre(t *testing.T) { // P8.1
	isPlay(t, of(api.Letter{Kind: api.Post, Data: nil}, api.Letter{Kind: api.Post, To: 1, Data: []byte{}}, open(0, 0), open(1, 1)), posted(0, 0), posted(1, 0), opened(0), opened(1))
	for n := range longest + 1 {
		data := text(n, byte(n))
		isPlay(t, of(post(2, 3, data...), open(3, 0)), posted(0, n), opened(0, data...))
	}
	for _, n := range []int{longest + 1, longest + 2, 2 * longest, 32 * 9, 512, 65536, 65536 + 1} {
		isRefusedWithoutATrace(t, nil, post(0, 1, text(n, 1)...), api.ErrSize)
		isRefusedWithoutATrace(t, of(post(0, 1, 7), post(0, 1, 8), open(1, 0)), post(0, 1, text(n, 1)...), api.ErrSize)
	}
}

func TestAllBytesAreLeftAsTheyAre(t *testing.T) { // P8.1
	for b := range 256 {
		isPlay(t, of(post(0, 1, byte(b), 0, byte(b)), open(1, 0)), posted(0, 3), opened(0, byte(b), 0, byte(b)))
	}
}

func TestLettersAreNumberedAsTheyArePosted(t *testing.T) { // P8.1
	isPlay(t, of(post(0, 1), post(1, 2), post(2, 0), open(2, 1), post(0, 1), open(1, 0), open(1, 3), post(4, 4)),
		posted(0, 0), posted(1, 0), posted(2, 0), opened(1), posted(3, 0), opened(0), opened(3), posted(4, 0))
	for _, bad := range []api.Letter{post(9, 1, 5), post(0, 9, 5), post(-1, 1, 5), post(0, -1, 5), post(0, 1, text(longest+1, 1)...), {}, {Kind: 3}, open(1, 5), open(9, 0), open(0, 0)} {
		got := play(t, of(bad, post(0, 1, 5), bad, bad, post(0, 1, 6, 6), open(1, 0), bad, post(2, 1, 7, 7, 7), open(1, 2), open(1, 1)))
		for at, want := range map[int]api.Opened{1: posted(0, 1), 4: posted(1, 2), 5: opened(0, 5), 7: posted(2, 3), 8: opened(2, 7, 7, 7), 9: opened(1, 6, 6)} {
			if !same(got[at], want) {
				t.Errorf("beside %v: the move %d comes to %v, want %v", bad, at, got[at], want)
			}
		}
	}
}

func TestTheFirstTheLastAndOneBetween(t *testing.T) { // P8.1
	for _, n := range []int{1, 2, 3, 10, deeds - 1} {
		var before []api.Letter
		for i := range n {
			before = of(before, post(i%3, 4, byte(i), byte(i/2)))
		}
		for _, id := range []int{0, n / 2, n - 1} {
			isLast(t, of(before, open(4, id)), opened(id, byte(id), byte(id/2)))
		}
		isLast(t, of(before, open(4, n)), refused(api.ErrNone))
		isLast(t, of(before, open(4, -1)), refused(api.ErrNone))
	}
}

func TestLettersThatThereAreNot(t *testing.T) { // P8.1
	for _, before := range [][]api.Letter{nil, of(post(0, 1, 7)), of(post(0, 1, 7), post(1, 0, 8), post(0, 1, 9), open(1, 0))} {
		for to := range broker + 1 {
			for _, id := range noIds {
				isRefusedWithoutATrace(t, before, open(to, id), api.ErrNone)
			}
		}
	}
	// What is posted later is not there yet, and is opened none the less when it is.
	isPlay(t, of(post(0, 1, 7), open(1, 1), post(0, 1, 8), open(1, 1)), posted(0, 1), refused(api.ErrNone), posted(1, 1), opened(1, 8))
	isPlay(t, of(open(0, 0), post(0, 0, 8), open(0, 0)), refused(api.ErrNone), posted(0, 1), opened(0, 8))
}

func TestNoLetterIsOpenedTwice(t *testing.T) { // P8.1
	isPlay(t, of(post(0, 1, 7), open(1, 0), open(1, 0), open(1, 0)), posted(0, 1), opened(0, 7), refused(api.ErrOld), refused(api.ErrOld))
	isRefusedWithoutATrace(t, of(post(0, 1, 7), open(1, 0)), open(1, 0), api.ErrOld)
	// Not behind others either, nor behind letters that came later.
	isLast(t, of(post(0, 1, 7), post(2, 1, 8), open(1, 0), open(1, 1), open(1, 0), open(1, 1)), refused(api.ErrOld), refused(api.ErrOld))
	isLast(t, of(post(0, 1, 7), open(1, 0), post(0, 1, 7), open(1, 0), open(1, 1), open(1, 0)), refused(api.ErrOld), opened(1, 7), refused(api.ErrOld))
	isLast(t, of(post(0, 1), open(1, 0), open(1, 0)), refused(api.ErrOld))
}

func TestLettersOfOneWayInTheirOrder(t *testing.T) { // P8.1
	five := of(post(0, 1, 1), post(0, 1, 2), post(0, 1, 3), post(0, 1, 4), post(0, 1, 5))
	isLast(t, of(five, open(1, 0), open(1, 1), open(1, 2), open(1, 3), open(1, 4)), opened(0, 1), opened(1, 2), opened(2, 3), opened(3, 4), opened(4, 5))
	// Some are left out, and are old from then on.
	isLast(t, of(five, open(1, 1), open(1, 4)), opened(1, 2), opened(4, 5))
	isLast(t, of(five, open(1, 2), open(1, 0), open(1, 1), open(1, 3)), opened(2, 3), refused(api.ErrOld), refused(api.ErrOld), opened(3, 4))
	isLast(t, of(five, open(1, 4), open(1, 3), open(1, 2), open(1, 1), open(1, 0)), opened(4, 5), refused(api.ErrOld), refused(api.ErrOld), refused(api.ErrOld), refused(api.ErrOld))
	isLast(t, of(five, open(1, 0), open(1, 4), open(1, 1)), opened(0, 1), opened(4, 5), refused(api.ErrOld))
	// An old one that is refused brings the way no further, and not back.
	isLast(t, of(five, open(1, 3), open(1, 0), open(1, 1), open(1, 2), open(1, 4)), opened(3, 4), refused(api.ErrOld), refused(api.ErrOld), refused(api.ErrOld), opened(4, 5))
	// One that was posted behind and not opened makes none old.
	isLast(t, of(five, post(0, 1, 6), open(1, 4), open(1, 5)), opened(4, 5), opened(5, 6))
	// One that another one tried makes none old.
	isLast(t, of(five, open(2, 4), open(1, 5), open(0, 3), open(1, 0)), refused(api.ErrDenied), refused(api.ErrNone), refused(api.ErrDenied), opened(0, 1))
}

func TestEveryOrderInWhichLettersOfOneWayAreOpened(t *testing.T) { // P8.1
	before := of(post(3, 4, 1), post(3, 4, 2), post(3, 4, 3), post(3, 4, 4))
	for n := range 256 {
		ids := []int{n % 4, n / 4 % 4, n / 16 % 4, n / 64 % 4}
		l, want, last := before, []api.Opened{}, -1
		for _, id := range ids {
			l = of(l, open(4, id))
			if id > last {
				want, last = append(want, opened(id, byte(id+1))), id
			} else {
				want = append(want, refused(api.ErrOld))
			}
		}
		isLast(t, l, want...)
	}
}

func TestLettersOfOtherWaysDoNotMatter(t *testing.T) { // P8.1
	// Of the same sender for another one.
	isLast(t, of(post(0, 1, 1), post(0, 2, 2), open(2, 1), open(1, 0)), opened(1, 2), opened(0, 1))
	// Of another sender for the same one.
	isLast(t, of(post(0, 1, 1), post(2, 1, 2), open(1, 1), open(1, 0)), opened(1, 2), opened(0, 1))
	// The way back, and those to oneself.
	isLast(t, of(post(0, 1, 1), post(1, 0, 2), open(0, 1), open(1, 0)), opened(1, 2), opened(0, 1))
	isLast(t, of(post(0, 1, 1), post(0, 0, 2), post(1, 1, 3), open(0, 1), open(1, 2), open(1, 0)), opened(1, 2), opened(2, 3), opened(0, 1))
	// Whatever the two ways are: the later letter makes the earlier one old, if they are the same.
	for n := range 9 * 9 * 9 * 9 {
		from, to, from2, to2 := n%9, n/9%9, n/81%9, n/729
		want := opened(0, 1)
		if from == from2 && to == to2 {
			want = refused(api.ErrOld)
		}
		isLast(t, of(post(from, to, 1), post(from2, to2, 2), open(to2, 1), open(to, 0)), opened(1, 2), want)
	}
	// Many of them between letters of one way.
	isLast(t, of(post(0, 1, 1), post(2, 1, 2), post(0, 2, 3), post(0, 1, 4), post(1, 0, 5), post(0, 1, 6), open(1, 1), open(2, 2), open(0, 4), open(1, 0), open(1, 5), open(1, 3)),
		opened(1, 2), opened(2, 3), opened(4, 5), opened(0, 1), opened(5, 6), refused(api.ErrOld))
}

func TestALetterForAnotherOne(t *testing.T) { // P8.1
	three := of(post(0, 1, 1), post(0, 2, 2), post(0, 1, 3))
	for to := range broker + 1 {
		if to != 1 {
			isRefusedWithoutATrace(t, three, open(to, 0), api.ErrDenied)
			isRefusedWithoutATrace(t, three, open(to, 2), api.ErrDenied)
			// It is old besides: opened, and left out.
			isRefusedWithoutATrace(t, of(three, open(1, 0)), open(to, 0), api.ErrDenied)
			isRefusedWithoutATrace(t, of(three, open(1, 2)), open(to, 0), api.ErrDenied)
			isRefusedWithoutATrace(t, of(three, open(1, 2)), open(to, 2), api.ErrDenied)
		}
	}
	// Its sender is another one, too, unless it posted for itself.
	isRefusedWithoutATrace(t, three, open(0, 0), api.ErrDenied)
	// What the other one opened of the same sender makes it not old for whom it is for.
	isLast(t, of(three, open(2, 1), open(2, 2), open(1, 2)), opened(1, 2), refused(api.ErrDenied), opened(2, 3))
}

func TestWhatIsNotAskedForIsNotLookedAt(t *testing.T) { // P8.1: From and Data of an Open, Id of a Post
	before := of(post(0, 1, 7), post(2, 1, 8))
	for _, n := range append([]int{0, 1, 2, 3, broker}, noParties...) {
		for _, data := range [][]byte{nil, {9}, text(longest+1, 1)} {
			isLast(t, of(before, api.Letter{Kind: api.Open, From: n, To: 1, Id: 0, Data: data}), opened(0, 7))
			isLast(t, of(before, api.Letter{Kind: api.Open, From: n, To: 1, Id: 1, Data: data}, api.Letter{Kind: api.Open, From: n, To: 1, Id: 1, Data: data}), opened(1, 8), refused(api.ErrOld))
			isLast(t, of(before, api.Letter{Kind: api.Open, From: n, To: 2, Id: 1, Data: data}), refused(api.ErrDenied))
			isLast(t, of(before, api.Letter{Kind: api.Open, From: n, To: 1, Id: 2, Data: data}), refused(api.ErrNone))
		}
		isLast(t, of(before, api.Letter{Kind: api.Post, From: 3, To: 1, Id: n, Data: []byte{4}}, open(1, 2)), posted(2, 1), opened(2, 4))
	}
}

func TestTheErrorThatIsNamedFirst(t *testing.T) { // P8.1
	long := text(longest+1, 1)
	three := of(post(0, 1, 1), post(0, 2, 2), post(0, 1, 3))
	for _, c := range []struct {
		before []api.Letter
		m      api.Letter
		want   api.Errno
	}{
		// Kind ahead of parties and of all else.
		{nil, api.Letter{Kind: 0, From: -1, To: 9, Id: -1, Data: long}, api.ErrKind},
		{three, api.Letter{Kind: 3, From: 9, To: 1, Id: 0, Data: long}, api.ErrKind},
		{three, api.Letter{Kind: -1, From: 0, To: -1, Id: 9}, api.ErrKind},
		{three, api.Letter{Kind: 3, From: 0, To: 1, Data: long}, api.ErrKind},
		// Parties ahead of how long a letter is.
		{nil, post(-1, 1, long...), api.ErrRange},
		{three, post(9, 1, long...), api.ErrRange},
		{three, post(0, 9, long...), api.ErrRange},
		{three, post(9, -1, long...), api.ErrRange},
		// Parties ahead of whether there is such a letter, and of for whom it is.
		{nil, open(9, 0), api.ErrRange},
		{three, open(-1, 3), api.ErrRange},
		{three, open(9, -1), api.ErrRange},
		{three, open(9, 0), api.ErrRange},
		{of(three, open(1, 2)), open(9, 0), api.ErrRange},
		// For whom it is ahead of whether it is old.
		{of(three, open(1, 2)), open(2, 0), api.ErrDenied},
		{of(three, open(1, 2)), open(0, 2), api.ErrDenied},
		{of(three, open(2, 1)), open(1, 1), api.ErrDenied},
	} {
		isRefusedWithoutATrace(t, c.before, c.m, c.want)
	}
}

func TestNobodyElseLearnsMoreThanTheSize(t *testing.T) { // P8.1: 'What comes of it'
	r := rand.New(rand.NewSource(5))
	for range 300 {
		one := anyPlay(r, 1+r.Intn(60))
		// The same moves, with other bytes in what is for 1.
		two := slices.Clone(one)
		for i, m := range two {
			if m.Kind == api.Post && m.To == 1 {
				two[i].Data = text(len(m.Data), byte(r.Intn(256)))
			}
		}
		a, b := play(t, one), play(t, two)
		for i, m := range one {
			if mine := m.Kind == api.Open && m.To == 1; !mine && !same(a[i], b[i]) {
				t.Fatalf("Play(%v): the move %d tells what is for 1: %v and %v", one, i, a[i], b[i])
			}
			if m.Kind == api.Post && len(a[i].Data) != 0 {
				t.Fatalf("Play(%v): the Post %d tells %v", one, i, a[i])
			}
		}
	}
}

// reckoner keeps the moves themselves, and reckons from them what each comes to.
type reckoner struct {
	moves []api.Letter
	codes []api.Errno
}

// letters are the places of the posts that were not refused.
func (r *reckoner) letters() []int {
	var at []int
	for i, m := range r.moves {
		if m.Kind == api.Post && r.codes[i] == api.OK {
			at = append(at, i)
		}
	}
	return at
}

// isOld goes through all that were opened.
func (r *reckoner) isOld(id int) bool {
	at := r.letters()
	for i, m := range r.moves {
		if m.Kind != api.Open || r.codes[i] != api.OK || m.Id < id {
			continue
		}
		if m.Id == id || r.moves[at[m.Id]].From == r.moves[at[id]].From && r.moves[at[m.Id]].To == r.moves[at[id]].To {
			return true
		}
	}
	return false
}

func (r *reckoner) refuse(m api.Letter) api.Errno {
	at := r.letters()
	switch {
	case m.Kind < 1 || m.Kind > 2:
		return api.ErrKind
	case m.To < 0 || m.To > broker || m.Kind == api.Post && (m.From < 0 || m.From > broker):
		return api.ErrRange
	case m.Kind == api.Post:
		if len(m.Data) > longest {
			return api.ErrSize
		}
	case m.Id < 0 || m.Id >= len(at):
		return api.ErrNone
	case r.moves[at[m.Id]].To != m.To:
		return api.ErrDenied
	case r.isOld(m.Id):
		return api.ErrOld
	}
	return api.OK
}

func (r *reckoner) do(m api.Letter) api.Opened {
	at, code := r.letters(), r.refuse(m)
	r.moves, r.codes = append(r.moves, m), append(r.codes, code)
	switch {
	case code != api.OK:
		return refused(code)
	case m.Kind == api.Post:
		return posted(len(at), len(m.Data))
	}
	return opened(m.Id, r.moves[at[m.Id]].Data...)
}

// isReckoned compares a play with what is reckoned.
func isReckoned(t *testing.T, l []api.Letter) []api.Opened {
	t.Helper()
	var r reckoner
	got := play(t, l)
	for i, m := range l {
		if want := r.do(m); !same(got[i], want) {
			t.Fatalf("Play(%v): the move %d comes to %v, want %v", l[:i+1], i, got[i], want)
		}
	}
	return got
}

func TestAllShortPlays(t *testing.T) { // P8.1
	each := of(post(0, 1, 1), post(0, 1), post(2, 1, 2), post(0, 2, 3), open(1, 0), open(1, 1), open(2, 0), open(1, 2), open(2, 1))
	all := [][]api.Letter{nil}
	for range 5 {
		var longer [][]api.Letter
		for _, l := range all {
			for _, m := range each {
				longer = append(longer, of(l, m))
			}
		}
		for _, l := range longer {
			isReckoned(t, l)
		}
		all = longer
	}
}

// anyPlay takes moves by chance, the same at each run; some are out of their range. Few parties, so that they meet.
func anyPlay(r *rand.Rand, n int) []api.Letter {
	var l []api.Letter
	var model reckoner
	some := 2 + r.Intn(3)
	for range n {
		at := model.letters()
		m := post(r.Intn(some), r.Intn(some), text(r.Intn(9), byte(r.Intn(256)))...)
		if r.Intn(2) == 0 {
			id := len(at) - r.Intn(6)
			m = open(r.Intn(some), id)
			if id >= 0 && id < len(at) && r.Intn(4) > 0 {
				m.To = model.moves[at[id]].To
			}
		}
		switch r.Intn(60) {
		case 0:
			m.Kind = noKinds[r.Intn(len(noKinds))]
		case 1:
			m.From = noParties[r.Intn(len(noParties))]
		case 2:
			m.To = noParties[r.Intn(len(noParties))]
		case 3:
			m.Id = noIds[r.Intn(len(noIds))]
		case 4:
			m.Data = text(longest+r.Intn(3), 1)
		case 5:
			m.From, m.To = r.Intn(broker+1), r.Intn(broker+1)
		}
		model.do(m)
		l = append(l, m)
	}
	return l
}

func TestManyPlays(t *testing.T) { // P8.1
	r := rand.New(rand.NewSource(8))
	seen := map[[2]int]int{}
	for range 300 {
		l := anyPlay(r, r.Intn(deeds+1))
		for i, x := range isReckoned(t, l) {
			seen[[2]int{l[i].Kind, int(x.Code)}]++
		}
	}
	for kind, codes := range map[int][]api.Errno{
		api.Post: {api.OK, api.ErrRange, api.ErrSize},
		api.Open: {api.OK, api.ErrRange, api.ErrNone, api.ErrDenied, api.ErrOld},
		0:        {api.ErrKind},
	} {
		for _, code := range codes {
			if seen[[2]int{kind, int(code)}] < 20 {
				t.Errorf("the kind %d came to %d in %d moves: they are badly chosen", kind, code, seen[[2]int{kind, int(code)}])
			}
		}
	}
}

func TestNothingIsKeptFromCallToCall(t *testing.T) { // 'What holds everywhere'
	for range 3 {
		isPlay(t, of(post(0, 1, 7), post(0, 1, 8), open(1, 1)), posted(0, 1), posted(1, 1), opened(1, 8))
		if got, code := seal.Play(times(deeds+1, post(0, 1, 7))); len(got) != 0 || code != api.ErrSize {
			t.Errorf("too many moves: %v %d", got, code)
		}
		isPlay(t, of(open(1, 0), post(0, 1, 9), open(1, 0)), refused(api.ErrNone), posted(0, 1), opened(0, 9))
	}
}

// somePlays are lists that may be played, and one that may not.
func somePlays() [][]api.Letter {
	r := rand.New(rand.NewSource(9))
	lists := [][]api.Letter{nil, {}, of(post(0, 1, 7)), of(open(1, 0)), of(api.Letter{}), times(deeds, post(0, 1, 7)), times(deeds+1, post(0, 1, 7)), of(post(0, 1, text(longest, 1)...), open(1, 0)), of(api.Letter{Kind: api.Post, Data: []byte{}}, open(0, 0))}
	for range 200 {
		lists = append(lists, anyPlay(r, r.Intn(40)))
	}
	return lists
}

const spare = 8

// roomy lays moves, and the bytes of each, where there is room behind them that is not empty; all and data are the lists with that room.
func roomy(l []api.Letter) (list, all []api.Letter, data [][]byte) {
	all = of(l, times(spare, api.Letter{Kind: 71, From: 72, To: 73, Id: 74, Data: []byte{75}}))
	for i, m := range all {
		b := append(slices.Clone(m.Data), text(spare, 76)...)
		data = append(data, b)
		all[i].Data = b[:len(m.Data)]
	}
	return all[:len(l)], all, data
}

// asText tells all that moves have.
func asText(all []api.Letter, data [][]byte) string { return fmt.Sprint(all, data) }

func TestListsAndTheRoomBehindThemAreLeft(t *testing.T) { // 'What holds everywhere'
	for _, l := range somePlays() {
		list, all, data := roomy(l)
		before := asText(all, data)
		seal.Play(list)
		if after := asText(all, data); after != before {
			t.Errorf("Play made %v of %v", after, before)
		}
	}
}

// spoil writes over a list and the room behind it.
func spoil[T any](l []T, with T) {
	l = l[:cap(l)]
	for i := range l {
		l[i] = with
	}
}

func TestWhatIsHandedInIsNotKept(t *testing.T) { // 'What holds everywhere'
	for _, l := range somePlays() {
		list, all, data := roomy(l)
		got, _ := seal.Play(list)
		want := fmt.Sprint(got)
		for _, b := range data {
			spoil(b, 99)
		}
		spoil(all, api.Letter{Kind: -9})
		if fmt.Sprint(got) != want {
			t.Errorf("Play(%v) keeps what it was handed", l)
		}
	}
}

func TestAnswersAreNewMemory(t *testing.T) { // 'What holds everywhere'
	for _, l := range somePlays() {
		list, all, data := roomy(l)
		before := asText(all, data)
		one, _ := seal.Play(list)
		two, _ := seal.Play(list)
		want := fmt.Sprint(two)
		for i := range one {
			spoil(one[i].Data, 99)
		}
		spoil(one, api.Opened{Code: -9, Id: -9, Size: -9, Data: []byte{9}})
		if asText(all, data) != before || fmt.Sprint(two) != want {
			t.Errorf("Play(%v): a change of one answer is seen elsewhere", l)
		}
	}
}

func TestNoTwoListsOfOneAnswerShareAny(t *testing.T) { // 'What holds everywhere'
	// Letters that are of the same bytes, and of bytes that lie in one another's room.
	whole := text(9, 1)
	l := []api.Letter{}
	for n := range 9 {
		l = append(l, api.Letter{Kind: api.Post, Data: whole[:n]}, api.Letter{Kind: api.Post, Data: whole[n:]}, api.Letter{Kind: api.Post, Data: whole})
	}
	for id := range l {
		l = append(l, open(0, id))
	}
	got := play(t, l)
	for i := range got {
		want := make([]string, len(got))
		for k := range got {
			want[k] = fmt.Sprint(got[k])
		}
		spoil(got[i].Data, byte(100+i))
		for k := range got {
			if k != i && fmt.Sprint(got[k]) != want[k] {
				t.Fatalf("the moves %d and %d share bytes", i, k)
			}
		}
	}
	if !bytes.Equal(whole, text(9, 1)) {
		t.Errorf("what was handed in is %v now", whole)
	}
}

func TestAnOfficeTakesMoreMovesThanAPlay(t *testing.T) { // a world's letters, which layer 12 asks for
	var o seal.Office
	for i := range 2 * deeds {
		if got := o.Post(i%3, 3, text(i%longest, byte(i))); !same(got, posted(i, i%longest)) {
			t.Fatalf("the letter %d comes to %v", i, got)
		}
	}
	for i := range 2 * deeds {
		if got := o.Open(3, i); !same(got, opened(i, text(i%longest, byte(i))...)) {
			t.Fatalf("the letter %d is opened as %v", i, got)
		}
	}
	if got := o.Open(3, 2*deeds-1); !same(got, refused(api.ErrOld)) {
		t.Errorf("opened twice it comes to %v", got)
	}
}

func TestWhatAnyoneSeesOfALetter(t *testing.T) { // the same
	var o seal.Office
	data := []byte{7, 8, 9}
	o.Post(2, broker, data)
	o.Post(2, broker, nil)
	spoil(data, 0)
	for id, want := range []api.Envelope{{Id: 0, From: 2, To: broker, Size: 3}, {Id: 1, From: 2, To: broker}} {
		if got, code := o.Seen(id); got != want || code != api.OK || o.IsOld(got) {
			t.Errorf("of the letter %d %v and %d is seen, old: %v", id, got, code, o.IsOld(got))
		}
	}
	for _, id := range append([]int{2}, noIds...) {
		if got, code := o.Seen(id); got != (api.Envelope{}) || code != api.ErrNone {
			t.Errorf("of the letter %d %v and %d is seen", id, got, code)
		}
	}
	// What was posted stays as it was.
	if got := o.Open(broker, 0); !same(got, opened(0, 7, 8, 9)) {
		t.Errorf("the letter is opened as %v", got)
	}
	for id, want := range []bool{true, false} {
		if x, _ := o.Seen(id); o.IsOld(x) != want {
			t.Errorf("the letter %d is old: %v", id, !want)
		}
	}
	o.Open(broker, 1)
	if x, _ := o.Seen(1); !o.IsOld(x) {
		t.Error("a letter that was opened is not old")
	}
	// Parties that there are not, and what is too long.
	for _, n := range noParties {
		if !same(o.Post(n, 0, nil), refused(api.ErrRange)) || !same(o.Post(0, n, nil), refused(api.ErrRange)) || !same(o.Open(n, 0), refused(api.ErrRange)) {
			t.Errorf("%d is a party", n)
		}
	}
	if got := o.Post(0, 1, text(longest+1, 1)); !same(got, refused(api.ErrSize)) {
		t.Errorf("a letter that is too long comes to %v", got)
	}
}

// Example: as README.md tells it.
func Example() {
	told, _ := seal.Play([]api.Letter{
		{Kind: api.Post, From: 0, To: 1, Data: []byte{7, 7}},
		{Kind: api.Post, From: 0, To: 1, Data: []byte{8}},
		{Kind: api.Open, To: 2, Id: 0},
		{Kind: api.Open, To: 1, Id: 1},
		{Kind: api.Open, To: 1, Id: 0},
		{Kind: api.Open, To: 1, Id: 2},
	})
	for _, x := range told {
		fmt.Println(x)
	}
	// Output:
	// {0 0 2 []}
	// {0 1 1 []}
	// {11 0 0 []}
	// {0 1 1 [8]}
	// {10 0 0 []}
	// {6 0 0 []}
}
