package frame_test

import (
	"bytes"
	"fmt"
	"math"
	"math/rand"
	"slices"
	"strings"
	"testing"

	"splittally/api"
	"splittally/frame"
)

// The limits, written out: MaxCount, MaxBranches, MaxLabels, MaxTicks, MaxItems, MaxKeys and MaxValue.
const (
	most    = 1048576
	crowd   = 8
	tags    = 4
	epoch   = 8
	things  = 3
	shelf   = 8
	highest = 255
)

// below are less than any number that may be anywhere.
var below = []int{-1, -2, -8, -255, -256, -most, -1 << 32, math.MinInt, math.MinInt + 1}

// above are greater than any number that may be anywhere, and some of them wrap round to such as may be.
var above = []int{most + 1, most + 2, 2*most - 1, 2 * most, 2*most + 1, 1<<32 - 1, 1 << 32, 1<<32 + 1, 1<<32 + 3, 1 << 62, math.MaxInt - 1, math.MaxInt}

var wild = slices.Concat(below, above)

// plain is of 0, 1 and 2: the label 0 is of 0 and 1, 1 of 1 and 2, 2 of all, 3 of nobody.
func plain() api.Config {
	return api.Config{Branches: 3, Labels: []int{3, 6, 7, 0}, Ticks: 2, Minted: []int{5, 0, most}, Cap: 4}
}

// with is a config that is changed in some way.
func with(c api.Config, change func(c *api.Config)) api.Config {
	c.Labels, c.Minted = slices.Clone(c.Labels), slices.Clone(c.Minted)
	change(&c)
	return c
}

func withBranches(n int, labels ...int) api.Config {
	return with(plain(), func(c *api.Config) { c.Branches, c.Labels = n, labels })
}

func withItems(minted ...int) api.Config {
	return with(plain(), func(c *api.Config) { c.Minted = minted })
}

// digits are so many bits of a number, the highest first.
func digits(n, width int) string {
	s := ""
	for range width {
		s = string(rune('0'+n%2)) + s
		n /= 2
	}
	return s
}

// number is what digits say.
func number(s string) int {
	n := 0
	for _, d := range s {
		n = 2*n + int(d-'0')
	}
	return n
}

// record are the bytes of bits, as many 0 being behind them as the last byte needs.
func record(s string) []byte {
	var b []byte
	for ; s != ""; s = s[8:] {
		if len(s) < 8 {
			s += strings.Repeat("0", 8-len(s))
		}
		b = append(b, byte(number(s[:8])))
	}
	return b
}

// bitsOf are the bits of bytes.
func bitsOf(b []byte) string {
	s := ""
	for _, x := range b {
		s += digits(int(x), 8)
	}
	return s
}

func note(key, value, time, who int) api.Entry {
	return api.Entry{Key: key, Value: value, Time: time, Who: who}
}

func gone(key, time, who int) api.Entry {
	return api.Entry{Key: key, Time: time, Who: who, Gone: true}
}

// many are entries of one label.
func many(l ...api.Entry) []api.Entry { return l }

// stored is what a branch has of each label.
func stored(l ...[]api.Entry) [][]api.Entry { return l }

func sameStore(a, b [][]api.Entry) bool { return slices.EqualFunc(a, b, slices.Equal[[]api.Entry]) }

func isIn(label int, branches ...int) bool {
	for _, k := range branches {
		if label>>k&1 == 0 {
			return false
		}
	}
	return true
}

// slot are the bits of an entry.
func slot(e api.Entry) string {
	here := "10"
	if e.Gone {
		here = "11"
	}
	return here + digits(e.Value, 8) + digits(e.Time, 21) + digits(e.Who, 3)
}

// slots are the bits of the entries of a label.
func slots(l []api.Entry) string {
	all := slices.Repeat([]string{strings.Repeat("0", 34)}, shelf)
	for _, e := range l {
		all[e.Key] = slot(e)
	}
	return strings.Join(all, "")
}

// rumour is what Rumour should tell of entries that may be told.
func rumour(c api.Config, from, to int, store [][]api.Entry) []byte {
	s := ""
	for i, label := range c.Labels {
		if isIn(label, from, to) {
			s += slots(store[i])
		}
	}
	return record(s)
}

// heard is what Heard should tell of bytes; false, if they may not be.
func heard(c api.Config, from, to int, b []byte) ([][]api.Entry, bool) {
	store := make([][]api.Entry, len(c.Labels))
	s := bitsOf(b)
	for i, label := range c.Labels {
		for key := 0; key < shelf && isIn(label, from, to); key++ {
			if len(s) < 34 {
				return nil, false
			}
			e := api.Entry{Key: key, Value: number(s[2:10]), Time: number(s[10:31]), Who: number(s[31:34]), Gone: s[1] == '1'}
			switch {
			case s[0] == '0' && strings.Contains(s[:34], "1"):
				return nil, false
			case s[0] == '1' && (e.Time > most || e.Gone && e.Value != 0):
				return nil, false
			case s[0] == '1':
				store[i] = append(store[i], e)
			}
			s = s[34:]
		}
	}
	return store, s == ""
}

func isMay(t *testing.T, c api.Config, want bool) {
	t.Helper()
	if got := frame.May(c); got != want {
		t.Errorf("May(%+v): %v, want %v", c, got, want)
	}
}

func isAsks(t *testing.T, c api.Config, wants []int, want []byte, code api.Errno) {
	t.Helper()
	if got, e := frame.Asks(c, wants); !bytes.Equal(got, want) || e != code {
		t.Errorf("Asks(%+v, %v): %v %d, want %v %d", c, wants, got, e, want, code)
	}
}

func isAsked(t *testing.T, c api.Config, b []byte, want []int, code api.Errno) {
	t.Helper()
	if got, e := frame.Asked(c, b); !slices.Equal(got, want) || e != code {
		t.Errorf("Asked(%+v, %v): %v %d, want %v %d", c, b, got, e, want, code)
	}
}

func isRumour(t *testing.T, c api.Config, from, to int, store [][]api.Entry, want []byte, code api.Errno) {
	t.Helper()
	if got, e := frame.Rumour(c, from, to, store); !bytes.Equal(got, want) || e != code {
		t.Errorf("Rumour(%+v, %d, %d, %v): %v %d, want %v %d", c, from, to, store, got, e, want, code)
	}
}

func isHeard(t *testing.T, c api.Config, from, to int, b []byte, want [][]api.Entry, code api.Errno) {
	t.Helper()
	if got, e := frame.Heard(c, from, to, b); !sameStore(got, want) || e != code {
		t.Errorf("Heard(%+v, %d, %d, %v): %v %d, want %v %d", c, from, to, b, got, e, want, code)
	}
}

// isBothAsks checks that numbers are told by bytes, and that these tell the numbers.
func isBothAsks(t *testing.T, c api.Config, wants []int, b []byte) {
	t.Helper()
	isAsks(t, c, wants, b, api.OK)
	isAsked(t, c, b, wants, api.OK)
}

// isBothRumour checks both ways between two branches that entries are told as they should be, and which of them are heard.
func isBothRumour(t *testing.T, c api.Config, from, to int, store [][]api.Entry) {
	t.Helper()
	want := make([][]api.Entry, len(store))
	for i, label := range c.Labels {
		if isIn(label, from, to) {
			want[i] = store[i]
		}
	}
	b := rumour(c, from, to, store)
	isRumour(t, c, from, to, store, b, api.OK)
	isRumour(t, c, to, from, store, b, api.OK)
	isHeard(t, c, from, to, b, want, api.OK)
	isHeard(t, c, to, from, b, want, api.OK)
}

func TestPlainConfigsMayBe(t *testing.T) { // P11.1
	isMay(t, plain(), true)
	isMay(t, api.Config{}, false)
	isMay(t, api.Config{Branches: 1, Ticks: 1, Minted: []int{0}}, true)
	isMay(t, api.Config{Branches: 8, Labels: []int{255, 255, 0, 128}, Ticks: 8, Minted: []int{most, most, most}, Cap: most}, true)
}

func TestBranchesOfAConfig(t *testing.T) { // P11.1
	for n := 1; n <= crowd; n++ {
		isMay(t, withBranches(n), true)
		isMay(t, withBranches(n, 1, 0, 1, 1), true)
	}
	for _, n := range append([]int{0, crowd + 1, crowd + 2, 16, 32, 62, 63, 64, 65, 255, 256, 257, most}, wild...) {
		isMay(t, withBranches(n), false)
		isMay(t, withBranches(n, 0), false)
		isMay(t, withBranches(n, 1, 1), false)
	}
}

func TestLabelsOfAConfigByTheirCount(t *testing.T) { // P11.1
	isMay(t, with(plain(), func(c *api.Config) { c.Labels = nil }), true)
	isMay(t, with(plain(), func(c *api.Config) { c.Labels = []int{} }), true)
	for _, s := range []int{0, 1, 4, 5, 7} {
		for count := 1; count <= tags; count++ {
			// Also the same label twice, and more often.
			isMay(t, withBranches(3, slices.Repeat([]int{s}, count)...), true)
		}
		for _, count := range []int{tags + 1, tags + 2, 8, 256, 257, 65536, 65537} {
			isMay(t, withBranches(3, slices.Repeat([]int{s}, count)...), false)
		}
	}
}

func TestAllLabelsOfAllConfigs(t *testing.T) { // P11.1: of nobody, of one branch, of all, and of one that there is not
	for branches := 1; branches <= crowd; branches++ {
		for s := range 1 << (crowd + 1) {
			may := s < 1<<branches
			isMay(t, withBranches(branches, s), may)
			for place := range tags {
				labels := []int{1, 0, 1, 1}
				labels[place] = s
				isMay(t, withBranches(branches, labels...), may)
			}
		}
		for _, s := range append([]int{most, -1 << branches, 1<<32 + 2}, wild...) {
			isMay(t, withBranches(branches, s), false)
			for place := range tags {
				labels := []int{1, 0, 1, 1}
				labels[place] = s
				isMay(t, withBranches(branches, labels...), false)
			}
		}
	}
}

func TestTicksOfAConfig(t *testing.T) { // P11.1
	for n := 1; n <= epoch; n++ {
		isMay(t, with(plain(), func(c *api.Config) { c.Ticks = n }), true)
	}
	for _, n := range append([]int{0, epoch + 1, epoch + 2, 255, 256, 257, most}, wild...) {
		isMay(t, with(plain(), func(c *api.Config) { c.Ticks = n }), false)
	}
}

func TestItemsOfAConfig(t *testing.T) { // P11.1
	isMay(t, with(plain(), func(c *api.Config) { c.Minted = nil }), false)
	isMay(t, with(plain(), func(c *api.Config) { c.Minted = []int{} }), false)
	for _, n := range []int{0, 1, 9, most - 1, most} {
		for count := 1; count <= things; count++ {
			isMay(t, withItems(slices.Repeat([]int{n}, count)...), true)
			for place := range count {
				for _, wrong := range wild {
					minted := slices.Repeat([]int{n}, count)
					minted[place] = wrong
					isMay(t, withItems(minted...), false)
				}
			}
		}
		for _, count := range []int{things + 1, things + 2, 8, 256, 257, 65537} {
			isMay(t, withItems(slices.Repeat([]int{n}, count)...), false)
		}
	}
}

func TestCapOfAConfig(t *testing.T) { // P11.1
	for _, n := range []int{0, 1, 2, 255, 256, most - 1, most} {
		isMay(t, with(plain(), func(c *api.Config) { c.Cap = n }), true)
	}
	for _, n := range wild {
		isMay(t, with(plain(), func(c *api.Config) { c.Cap = n }), false)
	}
}

// wrongConfigs are plain but for one thing, below or above what may be, and some of more than one.
func wrongConfigs() []api.Config {
	var l []api.Config
	add := func(change func(c *api.Config)) { l = append(l, with(plain(), change)) }
	for _, n := range append([]int{0, crowd + 1, 64}, wild...) {
		add(func(c *api.Config) { c.Branches = n })
		add(func(c *api.Config) { c.Branches, c.Labels = n, nil })
	}
	for _, n := range append([]int{8, 15, 256}, wild...) {
		for place := range tags {
			add(func(c *api.Config) { c.Labels[place] = n })
		}
	}
	for _, n := range append([]int{0, epoch + 1}, wild...) {
		add(func(c *api.Config) { c.Ticks = n })
	}
	for _, n := range wild {
		for place := range things {
			add(func(c *api.Config) { c.Minted[place] = n })
		}
		add(func(c *api.Config) { c.Cap = n })
		add(func(c *api.Config) { c.Branches, c.Ticks, c.Cap, c.Labels, c.Minted = n, n, n, []int{n}, []int{n} })
	}
	add(func(c *api.Config) { c.Labels = make([]int, tags+1) })
	add(func(c *api.Config) { c.Labels = []int{7, 7, 7, 7, 7} })
	add(func(c *api.Config) { c.Minted = nil })
	add(func(c *api.Config) { c.Minted = []int{} })
	add(func(c *api.Config) { c.Minted = make([]int, things+1) })
	return append(l, api.Config{})
}

func TestAConfigThatMayNotBeIsRefusedAheadOfAllElse(t *testing.T) { // P11.1
	for _, c := range wrongConfigs() {
		isMay(t, c, false)
		for _, wants := range [][]int{nil, {1}, {1, 2, 3}, {1, 2, 3, 4}, {-1, 2, most + 1}, {math.MaxInt}, slices.Clone(c.Minted), make([]int, 50)} {
			isAsks(t, c, wants, nil, api.ErrForm)
		}
		for _, n := range []int{0, 3, 6, 8, 34, 68, 102, 300} {
			for _, fill := range []byte{0, 1, 255} {
				b := bytes.Repeat([]byte{fill}, n)
				isAsked(t, c, b, nil, api.ErrForm)
				isHeard(t, c, 0, 1, b, nil, api.ErrForm)
				isHeard(t, c, -1, 9, b, nil, api.ErrForm)
			}
		}
		for _, store := range [][][]api.Entry{nil, {}, make([][]api.Entry, 4), make([][]api.Entry, len(c.Labels)), {many(note(-1, 0, 0, 0))}, stored(nil, many(note(9, 0, 0, 0)), nil, nil)} {
			for _, n := range []int{0, 2, 3, -1, math.MinInt, math.MaxInt} {
				isRumour(t, c, n, 1, store, nil, api.ErrForm)
				isRumour(t, c, 1, n, store, nil, api.ErrForm)
				isRumour(t, c, n, n, store, nil, api.ErrForm)
			}
		}
	}
}

func TestAsksWrittenOut(t *testing.T) { // P11.2
	isBothAsks(t, withItems(0), []int{0}, []byte{0, 0, 0})
	isBothAsks(t, withItems(0), []int{1}, []byte{0, 0, 8})
	isBothAsks(t, withItems(0), []int{most}, []byte{0x80, 0, 0})
	isBothAsks(t, withItems(0), []int{most - 1}, []byte{0x7f, 0xff, 0xf8})
	isBothAsks(t, withItems(9, 9), []int{1, most}, []byte{0, 0, 12, 0, 0, 0})
	isBothAsks(t, withItems(9, 9), []int{most, 1}, []byte{0x80, 0, 0, 0, 0, 0x40})
	isBothAsks(t, withItems(9, 9), []int{0, 0}, make([]byte, 6))
	isBothAsks(t, withItems(0, 0, 0), []int{0, 0, 0}, make([]byte, 8))
	isBothAsks(t, withItems(0, 0, 0), []int{1, 2, 3}, []byte{0, 0, 8, 0, 0, 0x80, 0, 6})
	isBothAsks(t, withItems(0, 0, 0), []int{most, most, most}, []byte{0x80, 0, 4, 0, 0, 0x20, 0, 0})
	isBothAsks(t, withItems(0, 0, 0), []int{0x12345, 0xabcde, 0xf0f0f}, record(digits(0x12345, 21)+digits(0xabcde, 21)+digits(0xf0f0f, 21)))
}

// sizes are how many bytes the records of so many numbers have.
var sizes = []int{0, 3, 6, 8}

func TestAsksOfTheLeastAndTheGreatestInEachPlace(t *testing.T) { // P11.2
	numbers := []int{0, 1, most / 2, most - 1, most}
	for count := 1; count <= things; count++ {
		c := withItems(make([]int, count)...)
		for place := range count {
			for _, n := range numbers {
				for _, other := range numbers {
					wants := slices.Repeat([]int{other}, count)
					wants[place] = n
					s := ""
					for _, x := range wants {
						s += digits(x, 21)
					}
					if len(record(s)) != sizes[count] {
						t.Fatalf("%d numbers have %d bytes, want %d", count, len(record(s)), sizes[count])
					}
					isBothAsks(t, c, wants, record(s))
				}
			}
			// Each bit of a number in its place.
			for k := range 21 {
				wants := make([]int, count)
				wants[place] = 1 << k
				b := make([]byte, sizes[count])
				at := 21*place + 20 - k
				b[at/8] = 1 << (7 - at%8)
				isBothAsks(t, c, wants, b)
			}
		}
	}
}

func TestAsksHangsOnHowManyItemsThereAreAlone(t *testing.T) { // P11.2
	for count := 1; count <= things; count++ {
		wants := []int{most, 0, 77}[:count]
		want, _ := frame.Asks(withItems(make([]int, count)...), wants)
		for _, c := range []api.Config{
			{Branches: 1, Ticks: 1, Minted: make([]int, count)},
			{Branches: 8, Ticks: 8, Labels: []int{255, 0, 1, 128}, Minted: slices.Repeat([]int{most}, count), Cap: most},
			// More is wanted than there is, and than may be had in an epoch.
			{Branches: 2, Ticks: 3, Labels: []int{3}, Minted: slices.Repeat([]int{1}, count), Cap: 1},
		} {
			isBothAsks(t, c, wants, want)
		}
	}
}

func TestAsksOfTooFewOrTooMany(t *testing.T) { // P11.2
	for count := 1; count <= things; count++ {
		c := withItems(make([]int, count)...)
		isAsks(t, c, nil, nil, api.ErrSize)
		isAsks(t, c, []int{}, nil, api.ErrSize)
		for _, n := range []int{0, 1, 2, 3, 4, 5, 40, 41, 256, 257, 258, 259, 65537} {
			if n != count {
				isAsks(t, c, make([]int, n), nil, api.ErrSize)
				// Ahead of what the numbers are.
				for _, wrong := range wild {
					isAsks(t, c, slices.Repeat([]int{wrong}, n), nil, api.ErrSize)
				}
			}
		}
	}
}

func TestAsksOfNumbersThatMayNotBe(t *testing.T) { // P11.2
	for count := 1; count <= things; count++ {
		c := withItems(make([]int, count)...)
		for _, wrong := range wild {
			for _, other := range []int{0, 5, most} {
				for place := range count {
					wants := slices.Repeat([]int{other}, count)
					wants[place] = wrong
					isAsks(t, c, wants, nil, api.ErrOver)
				}
			}
			isAsks(t, c, slices.Repeat([]int{wrong}, count), nil, api.ErrOver)
		}
	}
}

func TestAskedOfBytesTooFewOrTooMany(t *testing.T) { // P11.2
	for count := 1; count <= things; count++ {
		c := withItems(make([]int, count)...)
		isAsked(t, c, nil, nil, api.ErrForm)
		isAsked(t, c, []byte{}, nil, api.ErrForm)
		for n := range 300 {
			if n != sizes[count] {
				isAsked(t, c, make([]byte, n), nil, api.ErrForm)
				isAsked(t, c, bytes.Repeat([]byte{255}, n), nil, api.ErrForm)
			}
		}
		isAsked(t, c, make([]byte, sizes[count]), make([]int, count), api.OK)
	}
}

func TestAskedOfABitBehindTheLastField(t *testing.T) { // P11.2
	for count := 1; count <= things; count++ {
		c := withItems(make([]int, count)...)
		for _, n := range []int{0, 1, most} {
			b, _ := frame.Asks(c, slices.Repeat([]int{n}, count))
			for at := 21 * count; at < 8*len(b); at++ {
				wrong := slices.Clone(b)
				wrong[at/8] |= 1 << (7 - at%8)
				isAsked(t, c, wrong, nil, api.ErrForm)
			}
		}
	}
}

func TestAskedOfNumbersThatMayNotBe(t *testing.T) { // P11.2
	for count := 1; count <= things; count++ {
		c := withItems(make([]int, count)...)
		for place := range count {
			for _, wrong := range []int{most + 1, most + 2, most + most/2, 2*most - 2, 2*most - 1} {
				for _, other := range []int{0, 9, most} {
					s := ""
					for i := range count {
						if i == place {
							s += digits(wrong, 21)
						} else {
							s += digits(other, 21)
						}
					}
					isAsked(t, c, record(s), nil, api.ErrForm)
				}
			}
		}
	}
}

func TestManyAsks(t *testing.T) { // P11.2
	r := rand.New(rand.NewSource(110))
	refused := 0
	for range 5000 {
		count := 1 + r.Intn(things)
		c := withItems(make([]int, count)...)
		wants, s := make([]int, count), ""
		for i := range wants {
			wants[i] = r.Intn(most + 1)
			s += digits(wants[i], 21)
		}
		isBothAsks(t, c, wants, record(s))
		// Of any bytes of that length: Asks of what Asked tells is these bytes again.
		b := make([]byte, sizes[count])
		for i := range b {
			b[i] = []byte{0, 0, 0, byte(r.Intn(256))}[r.Intn(4)]
		}
		told, code := frame.Asked(c, b)
		if code == api.OK {
			isAsks(t, c, told, b, api.OK)
		} else {
			refused++
			isAsked(t, c, b, nil, api.ErrForm)
		}
	}
	if refused < 500 || refused > 4500 {
		t.Errorf("%d of the bytes are refused: they are badly chosen", refused)
	}
}

func TestRumoursWrittenOut(t *testing.T) { // P11.3
	c := api.Config{Branches: 3, Labels: []int{3, 6}, Ticks: 2, Minted: []int{5}, Cap: 4}
	store := stored(many(note(0, 9, 3, 1)), many(gone(7, 4, 2)))
	first := make([]byte, 34)
	// 1 0 00001001 000000000000000000011 001
	copy(first, []byte{0b10000010, 0b01000000, 0b00000000, 0b00000110, 0b01000000})
	isRumour(t, c, 0, 1, store, first, api.OK)
	isRumour(t, c, 1, 0, store, first, api.OK)
	isHeard(t, c, 0, 1, first, stored(store[0], nil), api.OK)
	second := make([]byte, 34)
	// 1 1 00000000 000000000000000000100 010, as the last 34 bits
	copy(second[29:], []byte{0b00000011, 0b00000000, 0b00000000, 0b00000000, 0b00100010})
	isRumour(t, c, 1, 2, store, second, api.OK)
	isRumour(t, c, 2, 1, store, second, api.OK)
	isHeard(t, c, 2, 1, second, stored(nil, store[1]), api.OK)
	isRumour(t, c, 0, 2, store, nil, api.OK)
	isHeard(t, c, 0, 2, nil, stored(nil, nil), api.OK)
	isRumour(t, c, 1, 1, store, slices.Concat(first, second), api.OK)
	isHeard(t, c, 1, 1, slices.Concat(first, second), store, api.OK)
}

func TestRumoursOfAllBranches(t *testing.T) { // P11.3: the first and the last one, both ways, from and to the same
	for branches := 1; branches <= crowd; branches++ {
		all := 1<<branches - 1
		c := withBranches(branches, all, 1, 1<<(branches-1), 0)
		store := stored(many(note(0, 1, 2, 3)), many(note(1, 2, 3, 4)), many(gone(2, 3, 4)), many(note(3, 4, 5, 6)))
		for from := range branches {
			for to := range branches {
				isBothRumour(t, c, from, to, store)
			}
		}
	}
}

func TestRumoursOfNoBranch(t *testing.T) { // P11.3
	for branches := 1; branches <= crowd; branches++ {
		for _, labels := range [][]int{nil, {1<<branches - 1}, {0, 1, 0, 1}} {
			c := withBranches(branches, labels...)
			store := make([][]api.Entry, len(labels))
			b := rumour(c, 0, 0, store)
			for _, wrong := range append([]int{branches, branches + 1, crowd, crowd + 1, 31, 32, 63, 64, 65, 255, 256, most}, wild...) {
				if 0 <= wrong && wrong < branches {
					continue
				}
				for _, other := range []int{0, branches - 1, wrong, -1, math.MaxInt} {
					isRumour(t, c, wrong, other, store, nil, api.ErrRange)
					isRumour(t, c, other, wrong, store, nil, api.ErrRange)
					isHeard(t, c, wrong, other, b, nil, api.ErrRange)
					isHeard(t, c, other, wrong, b, nil, api.ErrRange)
					isHeard(t, c, wrong, other, nil, nil, api.ErrRange)
				}
			}
		}
	}
}

func TestRumoursWithoutLabels(t *testing.T) { // P11.3
	for _, labels := range [][]int{nil, {}} {
		c := withBranches(3, labels...)
		for from := range 3 {
			for to := range 3 {
				isRumour(t, c, from, to, nil, nil, api.OK)
				isRumour(t, c, from, to, stored(), nil, api.OK)
				isRumour(t, c, from, to, stored(nil), nil, api.ErrSize)
				isHeard(t, c, from, to, nil, nil, api.OK)
				isHeard(t, c, from, to, []byte{}, nil, api.OK)
				isHeard(t, c, from, to, []byte{0}, nil, api.ErrForm)
				isHeard(t, c, from, to, make([]byte, 34), nil, api.ErrForm)
			}
		}
	}
}

// notes are entries of the keys from 0 on, none like another one.
func notes(count, seed int) []api.Entry {
	var l []api.Entry
	for key := range count {
		if (key+seed)%3 == 0 {
			l = append(l, gone(key, 100*seed+key, (key+seed)%8))
		} else {
			l = append(l, note(key, 10*seed+key, 1000*seed+key, (key+2*seed)%8))
		}
	}
	return l
}

func TestAllLabelsOfRumours(t *testing.T) { // P11.3: labels in which both are, one of them, none of them
	store := stored(notes(3, 1), notes(8, 2), notes(1, 3), notes(5, 4))
	for a := range 8 {
		for b := range 8 {
			for from := range 3 {
				for to := range 3 {
					isBothRumour(t, withBranches(3, a), from, to, store[:1])
					isBothRumour(t, withBranches(3, a, b), from, to, store[:2])
					isBothRumour(t, withBranches(3, b, 7-a, a, 7), from, to, store)
				}
			}
		}
	}
}

func TestTheSameLabelTwice(t *testing.T) { // P11.3
	c := withBranches(2, 3, 3)
	isBothRumour(t, c, 0, 1, stored(many(note(1, 5, 1, 0)), many(note(1, 6, 2, 1))))
	isBothRumour(t, c, 0, 1, stored(nil, many(note(1, 6, 2, 1))))
	isBothRumour(t, c, 0, 1, stored(many(note(1, 5, 1, 0)), nil))
	c = withBranches(2, 3, 1, 3, 3)
	isBothRumour(t, c, 0, 1, stored(notes(8, 1), notes(8, 2), notes(8, 3), notes(8, 4)))
}

func TestRumoursByTheCountOfEntries(t *testing.T) { // P11.3: none, one, as many as there may be
	for set := range 1 << shelf {
		var l []api.Entry
		for _, e := range notes(shelf, set%5) {
			if set>>e.Key&1 == 1 {
				l = append(l, e)
			}
		}
		isBothRumour(t, withBranches(2, 3), 0, 1, stored(l))
		isBothRumour(t, withBranches(2, 3, 3, 1, 3), 1, 0, stored(nil, l, l, notes(shelf, 1)))
	}
	isBothRumour(t, withBranches(2, 3), 0, 1, stored([]api.Entry{}))
}

// fieldsOf are how many bits stand ahead of each thing of a slot, and how many it has.
var fieldsOf = []struct{ at, width int }{{0, 1}, {1, 1}, {2, 8}, {10, 21}, {31, 3}}

// withField is an entry whose n-th field (Value, Time and Who as 2, 3 and 4) is a number.
func withField(e api.Entry, n, value int) api.Entry {
	*[]*int{2: &e.Value, 3: &e.Time, 4: &e.Who}[n] = value
	return e
}

func TestEachBitOfARumourInItsPlace(t *testing.T) { // P11.3
	c := withBranches(2, 3, 2, 3)
	for label, ahead := range map[int]int{0: 0, 2: 8 * 34} {
		for key := range shelf {
			start := ahead + 34*key
			is := func(e api.Entry, at ...int) {
				t.Helper()
				b := make([]byte, 68)
				for _, n := range at {
					b[(start+n)/8] |= 1 << (7 - (start+n)%8)
				}
				store := make([][]api.Entry, 3)
				store[label] = many(e)
				isRumour(t, c, 0, 1, store, b, api.OK)
				isHeard(t, c, 1, 0, b, store, api.OK)
			}
			is(note(key, 0, 0, 0), 0)
			is(gone(key, 0, 0), 0, 1)
			for n := 2; n < len(fieldsOf); n++ {
				for k := range fieldsOf[n].width {
					at := fieldsOf[n].at + fieldsOf[n].width - 1 - k
					is(withField(note(key, 0, 0, 0), n, 1<<k), 0, at)
					if n > 2 {
						is(withField(gone(key, 0, 0), n, 1<<k), 0, 1, at)
					}
				}
			}
		}
	}
}

func TestTheLeastAndTheGreatestOfARumour(t *testing.T) { // P11.3
	c := withBranches(2, 3)
	for key := range shelf {
		for who := range crowd { // also one that is no branch of this config: the entry may be
			for _, time := range []int{0, 1, 2, most / 2, most - 1, most} {
				for _, value := range []int{0, 1, 127, 128, highest - 1, highest} {
					isBothRumour(t, c, 0, 1, stored(many(note(key, value, time, who))))
				}
				isBothRumour(t, c, 0, 1, stored(many(gone(key, time, who))))
			}
		}
	}
	for value := range highest + 1 {
		isBothRumour(t, c, 1, 1, stored(many(note(0, value, 7, 1), note(7, highest-value, 8, 0))))
	}
}

func TestARumourIsAsLongWhateverStandsInIt(t *testing.T) { // P11.3, and 'What comes of it'
	for count := 0; count <= tags; count++ {
		for set := range 1 << count {
			var labels []int
			size := 0
			for i := range count {
				if set>>i&1 == 1 {
					labels = append(labels, 7)
					size += 34
				} else {
					labels = append(labels, 5)
				}
			}
			c := withBranches(3, labels...)
			for n := range shelf + 1 {
				store := make([][]api.Entry, count)
				for i := range store {
					store[i] = notes(n, i+1)
				}
				for _, way := range [][2]int{{0, 1}, {1, 0}, {1, 2}, {2, 1}, {1, 1}} {
					if b, e := frame.Rumour(c, way[0], way[1], store); len(b) != size || e != api.OK {
						t.Errorf("Rumour(%+v, %v, %v): %d bytes and %d, want %d and 0", c, way, store, len(b), e, size)
					}
				}
			}
		}
	}
}

func TestWhatNotBothMayReadDoesNotStandInARumour(t *testing.T) { // P11.3
	r := rand.New(rand.NewSource(111))
	for range 500 {
		c := anyConfig(r)
		from, to := r.Intn(c.Branches), r.Intn(c.Branches)
		one, other := anyStore(r, c, most, most), anyStore(r, c, most, most)
		for i, label := range c.Labels {
			if isIn(label, from, to) {
				one[i] = anyEntries(r, shelf, highest)
				other[i] = one[i]
			}
		}
		a, e := frame.Rumour(c, from, to, one)
		b, f := frame.Rumour(c, from, to, other)
		if !bytes.Equal(a, b) || e != api.OK || f != api.OK {
			t.Errorf("Rumour(%+v, %d, %d) of %v: %v %d, and of %v: %v %d", c, from, to, one, a, e, other, b, f)
		}
	}
}

func TestRumoursOfTooFewOrTooManyLists(t *testing.T) { // P11.3
	for count := 0; count <= tags; count++ {
		for _, s := range []int{0, 1, 3} {
			c := withBranches(2, slices.Repeat([]int{s}, count)...)
			for _, n := range []int{0, 1, 2, 3, 4, 5, 8, 256, 257, 258, 259, 260, 65537} {
				if n == count {
					continue
				}
				isRumour(t, c, 0, 1, make([][]api.Entry, n), nil, api.ErrSize)
				isRumour(t, c, 1, 1, slices.Repeat(stored(notes(2, 1)), n), nil, api.ErrSize)
				// Ahead of what the entries are.
				isRumour(t, c, 0, 1, slices.Repeat(stored(many(note(-1, -1, -1, -1))), n), nil, api.ErrSize)
				isRumour(t, c, 0, 1, slices.Repeat(stored(many(note(8, 256, 0, 0))), n), nil, api.ErrSize)
			}
			if count > 0 {
				isRumour(t, c, 0, 1, nil, nil, api.ErrSize)
				isRumour(t, c, 0, 1, stored(), nil, api.ErrSize)
			}
		}
	}
}

// wrongEntries are such as may not be.
func wrongEntries() [][]api.Entry {
	all := [][]api.Entry{
		many(note(1, 0, 1, 0), note(0, 0, 1, 0)),
		many(note(0, 0, 1, 0), note(2, 0, 1, 0), note(1, 0, 1, 0)),
		many(note(3, 1, 1, 1), note(3, 1, 1, 1)),
		many(note(3, 1, 1, 1), gone(3, 2, 1)),
		many(note(0, 0, 0, 0), note(7, 0, 0, 0), note(7, 0, 0, 0)),
		many(api.Entry{Gone: true, Value: 1}),
		many(api.Entry{Key: 7, Gone: true, Value: highest}),
		many(note(0, 0, 0, crowd)),
		many(note(0, 0, 0, 255)),
		many(note(0, 0, 0, most)),
		// Nine of them.
		append(notes(shelf, 1), note(8, 0, 0, 0)),
		slices.Repeat(many(note(0, 0, 0, 0)), 300),
	}
	for _, n := range wild {
		for _, e := range []api.Entry{note(n, 0, 0, 0), note(0, n, 0, 0), note(0, 0, n, 0), note(0, 0, 0, n), note(n, n, n, n), gone(n, 0, 0), gone(0, n, 0), gone(0, 0, n), {Gone: true, Value: n}} {
			all = append(all, many(e), many(note(0, 1, 1, 1), note(1, 1, 1, 1), e))
		}
		all = append(all, many(note(2, 1, n, 1), note(3, 1, 1, 1)))
	}
	return all
}

func TestRumoursOfEntriesThatMayNotBe(t *testing.T) { // P11.3
	c := withBranches(3, 3, 5, 4, 7)
	for _, wrong := range wrongEntries() {
		// In a label in which both are, one of them, or none.
		for place := range tags {
			store := stored(notes(2, 1), nil, notes(8, 2), notes(1, 3))
			store[place] = wrong
			isRumour(t, c, 0, 1, store, nil, api.ErrForm)
			isRumour(t, c, 1, 0, store, nil, api.ErrForm)
			isRumour(t, c, 1, 1, store, nil, api.ErrForm)
			// Ahead of what has no room, which stands ahead of it or behind it.
			for other := range tags {
				if other != place {
					store[other] = many(note(8, 256, 0, 0))
					isRumour(t, c, 0, 1, store, nil, api.ErrForm)
				}
			}
		}
	}
}

// greatEntries are such as may be, and have no room.
func greatEntries() [][]api.Entry {
	var all [][]api.Entry
	for _, n := range []int{shelf, shelf + 1, 15, 16, 255, 256, 257, 65536, most - 1, most} {
		all = append(all, many(note(n, 0, 0, 0)), many(note(n, highest, most, 7)), many(gone(n, 1, 1)), append(notes(7, 1), note(n, 1, 1, 1)))
	}
	for _, n := range []int{highest + 1, highest + 2, 511, 512, 65536, most - 1, most} {
		all = append(all, many(note(0, n, 0, 0)), many(note(7, n, most, 7)), many(note(1, 1, 1, 1), note(2, n, 1, 1), note(3, 1, 1, 1)), many(note(n, n, n, 7)))
	}
	return all
}

func TestRumoursOfEntriesWithoutRoom(t *testing.T) { // P11.3
	c := withBranches(3, 3, 5, 4, 7)
	for _, great := range greatEntries() {
		for place, label := range c.Labels {
			for from := range 3 {
				for to := range 3 {
					store := stored(notes(2, 1), nil, notes(8, 2), notes(1, 3))
					store[place] = great
					if isIn(label, from, to) {
						isRumour(t, c, from, to, store, nil, api.ErrOver)
					} else {
						isBothRumour(t, c, from, to, store)
					}
				}
			}
		}
	}
}

func TestHeardOfBytesTooFewOrTooMany(t *testing.T) { // P11.3
	for _, labels := range [][]int{nil, {0}, {1}, {3}, {3, 1}, {3, 3}, {1, 3, 2}, {3, 3, 3}, {3, 3, 3, 3}} {
		c := withBranches(2, labels...)
		store := make([][]api.Entry, len(labels))
		for i := range store {
			store[i] = notes(4, i+1)
		}
		b := rumour(c, 0, 1, store)
		for n := range 300 {
			if n == len(b) {
				continue
			}
			isHeard(t, c, 0, 1, make([]byte, n), nil, api.ErrForm)
			isHeard(t, c, 0, 1, bytes.Repeat([]byte{255}, n), nil, api.ErrForm)
			if n < len(b) {
				isHeard(t, c, 0, 1, b[:n], nil, api.ErrForm)
			} else {
				isHeard(t, c, 0, 1, append(slices.Clone(b), make([]byte, n-len(b))...), nil, api.ErrForm)
			}
		}
		// The fields fill whole bytes: each bit behind them is of a byte too many.
		for k := range 8 {
			isHeard(t, c, 0, 1, append(slices.Clone(b), 1<<k), nil, api.ErrForm)
		}
		isHeard(t, c, 0, 1, make([]byte, len(b)), make([][]api.Entry, len(labels)), api.OK)
	}
	c := withBranches(2, 1, 2)
	isHeard(t, c, 0, 1, nil, stored(nil, nil), api.OK)
	isHeard(t, c, 0, 1, []byte{}, stored(nil, nil), api.OK)
	isHeard(t, c, 0, 0, nil, nil, api.ErrForm)
}

// isWrongSlot checks that one slot is refused at each place, whatever stands beside it.
func isWrongSlot(t *testing.T, s string) {
	t.Helper()
	c := withBranches(2, 3, 1, 3)
	for _, count := range []int{0, shelf} {
		beside := slots(notes(count, 1)) + slots(notes(count, 2))
		for at := 0; at < len(beside); at += 34 {
			b := record(beside[:at] + s + beside[at+34:])
			isHeard(t, c, 0, 1, b, nil, api.ErrForm)
		}
	}
}

func TestHeardOfAFieldOfNoEntryThatIsNotZero(t *testing.T) { // P11.3
	for k := range 33 {
		isWrongSlot(t, digits(1<<k, 34))
	}
	isWrongSlot(t, "0"+strings.Repeat("1", 33))
	isWrongSlot(t, "0"+slot(note(0, 9, 3, 1))[1:])
	isWrongSlot(t, "0"+slot(gone(0, 3, 1))[1:])
}

func TestHeardOfAnEntryThatMayNotBe(t *testing.T) { // P11.3
	for _, time := range []int{most + 1, most + 2, most + most/2, 2*most - 2, 2*most - 1} {
		isWrongSlot(t, slot(note(0, 0, time, 0)))
		isWrongSlot(t, slot(note(0, highest, time, 7)))
		isWrongSlot(t, slot(gone(0, time, 3)))
	}
	for value := 1; value <= highest; value++ {
		isWrongSlot(t, slot(api.Entry{Value: value, Gone: true}))
	}
	isWrongSlot(t, slot(api.Entry{Value: highest, Time: most, Who: 7, Gone: true}))
	isWrongSlot(t, strings.Repeat("1", 34))
}

// isHeardAsReckoned compares Heard of bytes, and what Rumour tells of what it heard, and tells whether that may be.
func isHeardAsReckoned(t *testing.T, c api.Config, from, to int, b []byte) bool {
	t.Helper()
	want, may := heard(c, from, to, b)
	if !may {
		isHeard(t, c, from, to, b, nil, api.ErrForm)
		return false
	}
	isHeard(t, c, from, to, b, want, api.OK)
	isRumour(t, c, from, to, want, b, api.OK)
	return true
}

func TestHeardWithEachBitTurned(t *testing.T) { // P11.3
	c := withBranches(3, 3, 4, 7)
	for seed := range 6 {
		b := rumour(c, 0, 1, stored(notes(seed+1, seed), notes(3, 1), notes(shelf-seed, seed+1)))
		for at := range 8 * len(b) {
			turned := slices.Clone(b)
			turned[at/8] ^= 1 << (7 - at%8)
			isHeardAsReckoned(t, c, 0, 1, turned)
		}
	}
}

// anyConfig takes a config that may be by chance, the same at each run.
func anyConfig(r *rand.Rand) api.Config {
	c := api.Config{Branches: 1 + r.Intn(crowd), Ticks: 1 + r.Intn(epoch), Cap: r.Intn(most + 1)}
	for range r.Intn(tags + 1) {
		s := 0
		for who := range c.Branches {
			// Most branches are in most labels.
			if r.Intn(4) > 0 {
				s |= 1 << who
			}
		}
		c.Labels = append(c.Labels, s)
	}
	for range 1 + r.Intn(things) {
		c.Minted = append(c.Minted, r.Intn(most+1))
	}
	return c
}

// anyEntries takes entries by chance, with keys that are below some number, and values that are no greater than some number.
func anyEntries(r *rand.Rand, keys, values int) []api.Entry {
	var l []api.Entry
	for range r.Intn(shelf + 1) {
		e := note(r.Intn(keys), r.Intn(values+1), r.Intn(most+1), r.Intn(crowd))
		if r.Intn(3) == 0 {
			e = gone(e.Key, e.Time, e.Who)
		}
		if !slices.ContainsFunc(l, func(x api.Entry) bool { return x.Key == e.Key }) {
			l = append(l, e)
		}
	}
	slices.SortFunc(l, func(a, b api.Entry) int { return a.Key - b.Key })
	return l
}

func anyStore(r *rand.Rand, c api.Config, keys, values int) [][]api.Entry {
	store := make([][]api.Entry, len(c.Labels))
	for i := range store {
		store[i] = anyEntries(r, keys, values)
	}
	return store
}

func TestManyRumours(t *testing.T) { // P11.3
	r := rand.New(rand.NewSource(112))
	for range 3000 {
		c := anyConfig(r)
		isMay(t, c, true)
		isBothRumour(t, c, r.Intn(c.Branches), r.Intn(c.Branches), anyStore(r, c, shelf, highest))
	}
}

func TestManyBytesHeard(t *testing.T) { // P11.3
	r := rand.New(rand.NewSource(113))
	fine := 0
	for range 3000 {
		c := anyConfig(r)
		from, to := r.Intn(c.Branches), r.Intn(c.Branches)
		s := ""
		for _, label := range c.Labels {
			for range shelf {
				switch {
				case !isIn(label, from, to):
				case r.Intn(2) == 0:
					s += strings.Repeat("0", 34)
				case r.Intn(20) == 0:
					s += digits(r.Intn(1<<34), 34)
				default:
					s += slot(note(0, r.Intn(highest+1), r.Intn(most+1), r.Intn(crowd)))
				}
			}
		}
		if isHeardAsReckoned(t, c, from, to, record(s)) {
			fine++
		}
	}
	if fine < 500 || fine > 2500 {
		t.Errorf("%d of the bytes may be: they are badly chosen", fine)
	}
}

// isNamedFirst checks all sets of things that are wrong: the first one, in the order named, is answered.
func isNamedFirst(t *testing.T, codes []api.Errno, call func(wrong func(n int) bool) api.Errno) {
	t.Helper()
	for set := range 1 << len(codes) {
		want := api.OK
		for n := len(codes) - 1; n >= 0; n-- {
			if set>>n&1 == 1 {
				want = codes[n]
			}
		}
		if got := call(func(n int) bool { return set>>n&1 == 1 }); got != want {
			t.Errorf("with all of %b wrong: %d, want %d", set, got, want)
		}
	}
}

func TestTheErrorThatIsNamedFirst(t *testing.T) { // 'What holds everywhere'
	config := func(wrong bool) api.Config {
		c := withBranches(3, 3, 4)
		if wrong {
			c.Ticks = 0
		}
		return c
	}
	isNamedFirst(t, []api.Errno{api.ErrForm, api.ErrSize, api.ErrOver}, func(wrong func(n int) bool) api.Errno {
		wants := []int{1, 2, 3}
		if wrong(1) {
			wants = append(wants, 4)
		}
		if wrong(2) {
			wants[0] = -1
		}
		b, code := frame.Asks(config(wrong(0)), wants)
		if code != api.OK && len(b) != 0 {
			t.Errorf("Asks: %v beside %d", b, code)
		}
		return code
	})
	isNamedFirst(t, []api.Errno{api.ErrForm, api.ErrRange, api.ErrRange, api.ErrSize, api.ErrForm, api.ErrForm, api.ErrOver}, func(wrong func(n int) bool) api.Errno {
		from, to, store := 0, 1, stored(many(note(0, 0, 0, 0)), many(note(1, 0, 0, 0)))
		if wrong(1) {
			from = -1
		}
		if wrong(2) {
			to = 3
		}
		if wrong(6) {
			store[0][0].Key = 8
		}
		if wrong(5) {
			store[1][0].Time = -1
		}
		if wrong(4) {
			store[0] = append(store[0], store[0][0])
		}
		if wrong(3) {
			store = append(store, nil)
		}
		b, code := frame.Rumour(config(wrong(0)), from, to, store)
		if code != api.OK && len(b) != 0 {
			t.Errorf("Rumour: %v beside %d", b, code)
		}
		return code
	})
	isNamedFirst(t, []api.Errno{api.ErrForm, api.ErrRange, api.ErrRange, api.ErrForm, api.ErrForm}, func(wrong func(n int) bool) api.Errno {
		from, to, b := 0, 1, make([]byte, 34)
		if wrong(1) {
			from = 3
		}
		if wrong(2) {
			to = -1
		}
		if wrong(3) {
			b = b[:33]
		}
		if wrong(4) {
			b[0] = 1
		}
		store, code := frame.Heard(config(wrong(0)), from, to, b)
		if code != api.OK && len(store) != 0 {
			t.Errorf("Heard: %v beside %d", store, code)
		}
		return code
	})
}

// given is all that the five functions are handed.
type given struct {
	config   api.Config
	wants    []int
	from, to int
	store    [][]api.Entry
	asks     []byte
	rumour   []byte
}

// answers are all that the five functions answer.
type answers struct {
	asks   []byte
	asked  []int
	rumour []byte
	heard  [][]api.Entry
	codes  [4]api.Errno
	may    bool
}

func (g given) all() answers {
	var a answers
	a.may = frame.May(g.config)
	a.asks, a.codes[0] = frame.Asks(g.config, g.wants)
	a.asked, a.codes[1] = frame.Asked(g.config, g.asks)
	a.rumour, a.codes[2] = frame.Rumour(g.config, g.from, g.to, g.store)
	a.heard, a.codes[3] = frame.Heard(g.config, g.from, g.to, g.rumour)
	return a
}

// roomy lays a list where there is room behind it that is not empty.
func roomy[T any](l []T, with T) []T {
	return append(slices.Clone(l), slices.Repeat([]T{with}, 9)...)[:len(l)]
}

// laid lays all lists anew, each with room behind it.
func (g given) laid() given {
	g.config.Labels, g.config.Minted = roomy(g.config.Labels, 77), roomy(g.config.Minted, 78)
	g.wants, g.asks, g.rumour = roomy(g.wants, 79), roomy(g.asks, 80), roomy(g.rumour, 81)
	store := roomy(g.store, many(note(82, 83, 84, 85)))
	for i := range store {
		store[i] = roomy(store[i], note(86, 87, 88, 89))
	}
	g.store = store
	return g
}

// whole is a list with the room behind it.
func whole[T any](l []T) []T { return l[:cap(l)] }

// text tells all lists with the room behind them.
func (g given) text() string {
	s := fmt.Sprint(whole(g.config.Labels), whole(g.config.Minted), whole(g.wants), whole(g.asks), whole(g.rumour))
	for _, l := range whole(g.store) {
		s += fmt.Sprint(whole(l))
	}
	return s
}

// spoil writes over a list and the room behind it.
func spoil[T any](l []T, with T) {
	l = whole(l)
	for i := range l {
		l[i] = with
	}
}

// spoil writes over all lists, from within outwards.
func (g given) spoil() {
	spoil(g.config.Labels, -9)
	spoil(g.config.Minted, -9)
	spoil(g.wants, -9)
	spoil(g.asks, 0xee)
	spoil(g.rumour, 0xee)
	spoilStore(g.store)
}

func spoilStore(store [][]api.Entry) {
	wrong := note(-9, -9, -9, -9)
	for _, l := range whole(store) {
		spoil(l, wrong)
	}
	spoil(store, many(wrong))
}

func (a answers) spoil() {
	spoil(a.asks, 0xee)
	spoil(a.asked, -9)
	spoil(a.rumour, 0xee)
	spoilStore(a.heard)
}

// somethingGiven are many that may be, and some of which each function refuses something.
func somethingGiven() []given {
	r := rand.New(rand.NewSource(114))
	var all []given
	for range 200 {
		c := anyConfig(r)
		g := given{config: c, from: r.Intn(c.Branches), to: r.Intn(c.Branches), store: anyStore(r, c, shelf, highest)}
		for range c.Minted {
			g.wants = append(g.wants, r.Intn(most+1))
		}
		g.asks, _ = frame.Asks(c, g.wants)
		g.rumour, _ = frame.Rumour(c, g.from, g.to, g.store)
		all = append(all, g)
		for _, change := range []func(g *given){
			func(g *given) { g.config.Ticks = 9 },
			func(g *given) { g.config.Branches = 0 },
			func(g *given) { g.from = -1 },
			func(g *given) { g.wants, g.asks, g.rumour = g.wants[1:], g.asks[1:], append(g.rumour, 0) },
			func(g *given) { g.wants[0], g.asks[0], g.rumour = -1, 255, bytes.Repeat([]byte{1}, len(g.rumour)) },
			func(g *given) { g.store = append(g.store, nil) },
			func(g *given) {
				if len(g.store) > 0 {
					g.store[0] = many(note(9, 999, 0, 0))
				}
			},
			func(g *given) {
				if len(g.store) > 0 {
					g.store[0] = many(note(1, 0, 0, 0), note(0, 0, 0, 0))
				}
			},
		} {
			wrong := g.laid()
			change(&wrong)
			all = append(all, wrong)
		}
	}
	return all
}

func TestListsAndTheRoomBehindThemAreLeft(t *testing.T) { // 'What holds everywhere'
	for _, g := range somethingGiven() {
		g = g.laid()
		want := g.text()
		g.all()
		if got := g.text(); got != want {
			t.Errorf("%s became %s", want, got)
		}
	}
}

func TestWhatIsHandedInIsNotKept(t *testing.T) { // 'What holds everywhere'
	for _, g := range somethingGiven() {
		laid := g.laid()
		a := laid.all()
		want := fmt.Sprint(a)
		laid.spoil()
		if fmt.Sprint(a) != want {
			t.Errorf("of %+v something is kept", g)
		}
		if got := fmt.Sprint(g.all()); got != want {
			t.Errorf("%+v comes to %s at first, and to %s then", g, want, got)
		}
	}
}

func TestAnswersAreNewMemory(t *testing.T) { // 'What holds everywhere'
	for _, g := range somethingGiven() {
		g = g.laid()
		before := g.text()
		first, second := g.all(), g.all()
		want := fmt.Sprint(second)
		first.spoil()
		if g.text() != before || fmt.Sprint(second) != want || fmt.Sprint(g.all()) != want {
			t.Errorf("of %+v a change of one answer is seen elsewhere", g)
		}
	}
}

func TestNoTwoListsOfOneAnswerShareAny(t *testing.T) { // 'What holds everywhere'
	for _, g := range somethingGiven() {
		told, _ := frame.Heard(g.config, g.from, g.to, g.rumour)
		// Each list is written over in its turn: what the others have, and their room, is left.
		for i := range told {
			want := wholeStore(told)
			spoil(told[i], note(-9, i, -9, -9))
			want[i] = slices.Clone(whole(told[i]))
			if got := wholeStore(told); !sameStore(got, want) {
				t.Fatalf("Heard(%+v, %d, %d, %v): the list %d is shared", g.config, g.from, g.to, g.rumour, i)
			}
		}
	}
}

// wholeStore copies lists with the room behind each.
func wholeStore(store [][]api.Entry) [][]api.Entry {
	var all [][]api.Entry
	for _, l := range store {
		all = append(all, slices.Clone(whole(l)))
	}
	return all
}

// Example: as README.md tells it.
func Example() {
	c := api.Config{Branches: 3, Labels: []int{3, 6}, Ticks: 2, Minted: []int{20, 7}, Cap: 4}
	fmt.Println(frame.May(c))
	asks, _ := frame.Asks(c, []int{5, 1})
	fmt.Println(asks)
	fmt.Println(frame.Asked(c, asks))
	fmt.Println(frame.Asks(c, []int{5}))
	has := [][]api.Entry{{{Key: 1, Value: 5, Time: 1, Who: 0}}, {{Key: 2, Value: 7, Time: 1, Who: 1}}}
	told, _ := frame.Rumour(c, 1, 2, has)
	fmt.Println(len(told))
	fmt.Println(frame.Heard(c, 1, 2, told))
	told, _ = frame.Rumour(c, 0, 2, has)
	fmt.Println(len(told))
	// Output:
	// true
	// [0 0 40 0 0 64]
	// [5 1] 0
	// [] 1
	// 34
	// [[] [{2 7 1 1 false}]] 0
	// 0
}
