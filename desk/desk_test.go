package desk_test

import (
	"fmt"
	"math"
	"math/big"
	"math/rand"
	"regexp"
	"slices"
	"strings"
	"testing"

	"splittally/api"
	"splittally/desk"
)

// The fields of a step behind its Kind, by their places.
const (
	who = iota
	item
	count
	life
	id
	label
	key
	places
)

// names tells of each word, by its Kind, the places of what it names. There is no Kind 0.
var names = []struct {
	word  string
	named []int
}{
	{"", nil},
	{"ask", []int{who, item, count}},
	{"sell", []int{who, item, count}},
	{"hold", []int{who, item, count, life}},
	{"confirm", []int{who, item, id}},
	{"cancel", []int{who, item, id}},
	{"refund", []int{who, item, count}},
	{"put", []int{who, label, key, count}},
	{"get", []int{who, label, key}},
	{"tick", nil},
	{"deliver", []int{id}},
	{"lose", []int{id}},
}

const lastKind = 11

// numbers are of no digit but 0, of one, of several, below 0, and the ends of all that there are.
var numbers = []int{
	0, 1, 2, 3, 4, 5, 6, 7, 8, 9, 10, 11, 19, 20, 42, 99, 100, 101, 1000, 1048576, 1234567890, 1 << 32, 1<<32 + 1, 1 << 53, 1<<53 + 1,
	1000000000000000000, 999999999999999999, math.MaxInt - 1, math.MaxInt,
	-1, -2, -3, -9, -10, -11, -20, -99, -100, -1048576, -1 << 31, -1 << 32, -1000000000000000000, math.MinInt + 1, math.MinInt,
}

// noKinds are below the first and above the last one, and some of them wrap round to such as may be.
var noKinds = []int{
	0, -1, -2, -11, -12, 12, 13, 20, 127, 128, 255, 256, 257, 267, 1 << 16, 1<<16 + 1, 1<<31 + 1, 1 << 32, 1<<32 + 1, 1<<32 + 11, -1<<32 + 9,
	1 << 62, 1<<62 + 1, math.MaxInt - 1, math.MaxInt, math.MinInt, math.MinInt + 1, math.MinInt + 9,
}

// put is a step whose field at a place is a number.
func put(s api.Step, place, n int) api.Step {
	switch place {
	case who:
		s.Who = n
	case item:
		s.Item = n
	case count:
		s.Count = n
	case life:
		s.Life = n
	case id:
		s.Id = n
	case label:
		s.Label = n
	case key:
		s.Key = n
	}
	return s
}

func at(s api.Step, place int) int {
	return []int{s.Who, s.Item, s.Count, s.Life, s.Id, s.Label, s.Key}[place]
}

// filled is a step of a Kind in which each field that it names is n, n + 1 and so on.
func filled(kind, n int) api.Step {
	s := api.Step{Kind: kind}
	for i, place := range names[kind].named {
		s = put(s, place, n+i)
	}
	return s
}

func unnamed(kind int) []int {
	var l []int
	for place := range places {
		if !slices.Contains(names[kind].named, place) {
			l = append(l, place)
		}
	}
	return l
}

// reckoned is the line that a step should have, of which it names all that is not 0.
func reckoned(s api.Step) string {
	l := []string{names[s.Kind].word}
	for _, place := range names[s.Kind].named {
		l = append(l, big.NewInt(int64(at(s, place))).String())
	}
	return strings.Join(l, " ")
}

var (
	three = regexp.MustCompile(`\A(ask|sell|confirm|cancel|refund|get)((?: (?:0|-?[1-9][0-9]*)){3})\z`)
	four  = regexp.MustCompile(`\A(hold|put)((?: (?:0|-?[1-9][0-9]*)){4})\z`)
	one   = regexp.MustCompile(`\A(deliver|lose)((?: (?:0|-?[1-9][0-9]*)){1})\z`)
	none  = regexp.MustCompile(`\A(tick)()\z`)
)

// reckonedOf is the step that a line should be of, if it is of one.
func reckonedOf(line string) (api.Step, bool) {
	for _, form := range []*regexp.Regexp{three, four, one, none} {
		found := form.FindStringSubmatch(line)
		if found == nil {
			continue
		}
		s := api.Step{}
		for kind := range names {
			if names[kind].word == found[1] {
				s.Kind = kind
			}
		}
		for i, digits := range strings.Fields(found[2]) {
			n, _ := new(big.Int).SetString(digits, 10)
			if !n.IsInt64() {
				return api.Step{}, false
			}
			s = put(s, names[s.Kind].named[i], int(n.Int64()))
		}
		return s, true
	}
	return api.Step{}, false
}

func isShown(t *testing.T, s api.Step, want string, code api.Errno) {
	t.Helper()
	if got, e := desk.Show(s); got != want || e != code {
		t.Errorf("Show(%+v): %q %d, want %q %d", s, got, e, want, code)
	}
}

// isRead compares the answer; of an error the step is the zero one.
func isRead(t *testing.T, line string, want api.Step, code api.Errno) {
	t.Helper()
	if got, e := desk.Read(line); got != want || e != code {
		t.Errorf("Read(%.200q): %+v %d, want %+v %d", line, got, e, want, code)
	}
}

func isOfNone(t *testing.T, line string) {
	t.Helper()
	isRead(t, line, api.Step{}, api.ErrForm)
}

// isBoth asks for the line of a step, and for the step of the line.
func isBoth(t *testing.T, s api.Step, line string) {
	t.Helper()
	isShown(t, s, line, api.OK)
	isRead(t, line, s, api.OK)
}

// isReckoned asks for the step of any line; one that is read must be the line of what was read.
func isReckoned(t *testing.T, line string) {
	t.Helper()
	s, ok := reckonedOf(line)
	if !ok {
		isOfNone(t, line)
		return
	}
	isBoth(t, s, line)
}

func TestLinesWrittenOut(t *testing.T) { // P14.1
	isBoth(t, api.Step{Kind: api.AskFor, Who: 1, Item: 2, Count: 3}, "ask 1 2 3")
	isBoth(t, api.Step{Kind: api.Sale, Who: 4, Item: 5, Count: 6}, "sell 4 5 6")
	isBoth(t, api.Step{Kind: api.Holding, Who: 7, Item: 8, Count: 9, Life: 10}, "hold 7 8 9 10")
	isBoth(t, api.Step{Kind: api.Confirms, Who: 11, Item: 12, Id: 13}, "confirm 11 12 13")
	isBoth(t, api.Step{Kind: api.Cancels, Who: 14, Item: 15, Id: 16}, "cancel 14 15 16")
	isBoth(t, api.Step{Kind: api.Refunds, Who: 17, Item: 18, Count: 19}, "refund 17 18 19")
	isBoth(t, api.Step{Kind: api.Puts, Who: 20, Label: 21, Key: 22, Count: 23}, "put 20 21 22 23")
	isBoth(t, api.Step{Kind: api.Gets, Who: 24, Label: 25, Key: 26}, "get 24 25 26")
	isBoth(t, api.Step{Kind: api.Ticks}, "tick")
	isBoth(t, api.Step{Kind: api.Deliver, Id: 27}, "deliver 27")
	isBoth(t, api.Step{Kind: api.Lose, Id: 28}, "lose 28")
}

func TestAllNamedAreZero(t *testing.T) { // P14.1
	isBoth(t, api.Step{Kind: api.AskFor}, "ask 0 0 0")
	isBoth(t, api.Step{Kind: api.Sale}, "sell 0 0 0")
	isBoth(t, api.Step{Kind: api.Holding}, "hold 0 0 0 0")
	isBoth(t, api.Step{Kind: api.Confirms}, "confirm 0 0 0")
	isBoth(t, api.Step{Kind: api.Cancels}, "cancel 0 0 0")
	isBoth(t, api.Step{Kind: api.Refunds}, "refund 0 0 0")
	isBoth(t, api.Step{Kind: api.Puts}, "put 0 0 0 0")
	isBoth(t, api.Step{Kind: api.Gets}, "get 0 0 0")
	isBoth(t, api.Step{Kind: api.Ticks}, "tick")
	isBoth(t, api.Step{Kind: api.Deliver}, "deliver 0")
	isBoth(t, api.Step{Kind: api.Lose}, "lose 0")
}

func TestDigitsWrittenOut(t *testing.T) { // P14.1
	for n, digits := range map[int]string{
		0: "0", 7: "7", 10: "10", 100: "100", 1048576: "1048576", math.MaxInt: "9223372036854775807",
		-1: "-1", -10: "-10", -1048576: "-1048576", math.MinInt: "-9223372036854775808",
	} {
		isBoth(t, api.Step{Kind: api.Lose, Id: n}, "lose "+digits)
		isBoth(t, api.Step{Kind: api.Deliver, Id: n}, "deliver "+digits)
		isBoth(t, api.Step{Kind: api.Holding, Who: n, Item: n, Count: n, Life: n}, "hold "+digits+" "+digits+" "+digits+" "+digits)
		isBoth(t, api.Step{Kind: api.Gets, Who: n, Label: 5, Key: -5}, "get "+digits+" 5 -5")
		isBoth(t, api.Step{Kind: api.Cancels, Who: 5, Item: n, Id: -5}, "cancel 5 "+digits+" -5")
		isBoth(t, api.Step{Kind: api.Refunds, Who: 5, Item: -5, Count: n}, "refund 5 -5 "+digits)
	}
}

func TestEachNumberInEachNamedField(t *testing.T) { // P14.1
	for kind := 1; kind <= lastKind; kind++ {
		for _, place := range names[kind].named {
			for _, n := range numbers {
				for _, others := range []int{0, 3, -30, 400} {
					s := filled(kind, others)
					if others == 0 {
						s = api.Step{Kind: kind}
					}
					s = put(s, place, n)
					isBoth(t, s, reckoned(s))
				}
			}
		}
	}
}

func TestAnyNumbersInAllNamedFields(t *testing.T) { // P14.1
	r := rand.New(rand.NewSource(14))
	for range 20000 {
		s := api.Step{Kind: 1 + r.Intn(lastKind)}
		for _, place := range names[s.Kind].named {
			s = put(s, place, anyNumber(r))
		}
		isBoth(t, s, reckoned(s))
	}
}

// anyNumber is of any length.
func anyNumber(r *rand.Rand) int {
	if r.Intn(3) == 0 {
		return numbers[r.Intn(len(numbers))]
	}
	return int(r.Uint64()) >> r.Intn(64)
}

func TestThereIsNoSuchKind(t *testing.T) { // P14.1
	for _, kind := range noKinds {
		isShown(t, api.Step{Kind: kind}, "", api.ErrKind)
		isShown(t, api.Step{Kind: kind, Who: 1, Item: 2, Count: 3, Life: 4, Id: 5, Label: 6, Key: 7}, "", api.ErrKind)
		for place := range places {
			for _, n := range numbers {
				isShown(t, put(api.Step{Kind: kind}, place, n), "", api.ErrKind)
			}
		}
	}
}

func TestAFieldThatIsNotNamedIsNotZero(t *testing.T) { // P14.1
	for kind := 1; kind <= lastKind; kind++ {
		for _, place := range unnamed(kind) {
			for _, n := range numbers[1:] {
				isShown(t, put(api.Step{Kind: kind}, place, n), "", api.ErrForm)
				isShown(t, put(filled(kind, 1), place, n), "", api.ErrForm)
				isShown(t, put(filled(kind, -9), place, n), "", api.ErrForm)
			}
		}
	}
}

func TestSeveralFieldsThatAreNotNamed(t *testing.T) { // P14.1
	for kind := 1; kind <= lastKind; kind++ {
		l := unnamed(kind)
		for set := 1; set < 1<<len(l); set++ {
			// One is as much above 0 as the other below it, so that they are 0 together.
			n := 1
			s, named := api.Step{Kind: kind}, filled(kind, 1)
			for i, place := range l {
				if set>>i&1 == 1 {
					s, named = put(s, place, n), put(named, place, n)
					n = -n
				}
			}
			isShown(t, s, "", api.ErrForm)
			isShown(t, named, "", api.ErrForm)
		}
	}
}

func TestAllSetsOfFields(t *testing.T) { // P14.1
	for kind := 1; kind <= lastKind; kind++ {
		for set := range 1 << places {
			s, beyond := api.Step{Kind: kind}, false
			for place := range places {
				if set>>place&1 == 1 {
					s = put(s, place, 10*place-25)
					beyond = beyond || !slices.Contains(names[kind].named, place)
				}
			}
			if beyond {
				isShown(t, s, "", api.ErrForm)
				continue
			}
			isBoth(t, s, reckoned(s))
		}
	}
}

func TestWordsThatThereAreNot(t *testing.T) { // P14.1
	isOfNone(t, "")
	for _, word := range []string{
		"a", "x", "0", "1", "-", "-1", "sale", "holding", "confirms", "cancels", "refunds", "puts", "gets", "ticks", "askfor", "ask for", "AskFor", "Ticks",
		"deliver lose", "asksell", "ask,sell", "sell,", "sells", "loses", "delivers", "none", "\x00", "\xff", "é", "tíck", "tick\u0301", "ａｓｋ", "tic\u212a", "ticK", "lo\u017fe",
	} {
		isOfNone(t, word)
		isOfNone(t, word+" ")
		for n := 1; n <= 5; n++ {
			isOfNone(t, word+strings.Repeat(" 1", n))
		}
	}
}

func TestNearlyWords(t *testing.T) { // P14.1
	for kind := 1; kind <= lastKind; kind++ {
		word := names[kind].word
		line := reckoned(filled(kind, 1))
		rest := strings.TrimPrefix(line, word)
		for i := range word {
			isOfNone(t, word[:i]+word[i+1:]+rest)
			isOfNone(t, word[:i]+rest)
			isOfNone(t, word[i+1:]+rest)
			isOfNone(t, word[:i]+" "+word[i:]+rest)
			isOfNone(t, word[:i]+word[i:i+1]+word[i:]+rest)
			isOfNone(t, word[:i]+strings.ToUpper(word[i:i+1])+word[i+1:]+rest)
			isOfNone(t, strings.ToUpper(word[:i+1])+word[i+1:]+rest)
			isOfNone(t, word[:i]+"\x00"+word[i:]+rest)
		}
		for _, more := range []string{"s", "e", "0", "1", "-", ".", ":", "\x00", "\xff", "é", word} {
			isOfNone(t, word+more+rest)
			isOfNone(t, more+word+rest)
		}
		isOfNone(t, strings.ToUpper(word)+rest)
		isOfNone(t, " "+line)
		isOfNone(t, line+" ")
		isOfNone(t, word+" "+rest)
		isOfNone(t, word+" ")
		isOfNone(t, " "+word)
		isOfNone(t, strings.TrimPrefix(rest, " "))
		isOfNone(t, line+" "+line)
	}
}

func TestBlanksAndWhatLooksLikeThem(t *testing.T) { // P14.1
	signs := []string{"", "  ", "   ", "\t", "\n", "\r", "\r\n", "\v", "\f", "\x00", "\u00a0", "\xa0", "\x85", "\u2003", "\u2009", "\u200b", "\u202f", "\u3000", "\ufeff", "_", ",", ";", "+", " \t", "\t ", " \n", "\n "}
	for _, sign := range append(signs, " ") {
		if sign != "" {
			isOfNone(t, sign)
			isOfNone(t, sign+sign)
		}
		for kind := 1; kind <= lastKind; kind++ {
			line := reckoned(filled(kind, 1))
			if sign != "" {
				isOfNone(t, line+sign)
				isOfNone(t, sign+line)
			}
		}
	}
	for _, sign := range signs {
		for kind := 1; kind <= lastKind; kind++ {
			line := reckoned(filled(kind, 1))
			for i := range line {
				// A number whose blank is gone may be the end of the one ahead of it, so one too few is left.
				if line[i] == ' ' {
					isOfNone(t, line[:i]+sign+line[i+1:])
				}
			}
		}
	}
}

func TestTooFewAndTooManyNumbers(t *testing.T) { // P14.1
	for kind := 1; kind <= lastKind; kind++ {
		for _, number := range []string{"0", "1", "-1", "20", "9223372036854775807"} {
			for n := range 8 {
				line := names[kind].word + strings.Repeat(" "+number, n)
				if n == len(names[kind].named) {
					s, _ := reckonedOf(line)
					isRead(t, line, s, api.OK)
					continue
				}
				isOfNone(t, line)
				isOfNone(t, line+" ")
			}
		}
	}
}

// notNumbers are no line's number.
var notNumbers = []string{
	"", "00", "01", "07", "007", "0000000000000000000", "00000000000000000001", "010", "-0", "-00", "-01", "-07", "-", "--", "--1", "---1", "-+1", "+-1", "+", "+0", "+1", "+20", "++1",
	"1-", "12-", "1-2", "1-1", "-1-", "-1-2", "0-", "0-1", "- 1", "−1", "–1", "‐1",
	"a", "x", "1a", "a1", "1x", "0x1", "0x", "0X1F", "0b1", "0o7", "1e3", "1E3", "1.0", "1.", ".1", "1,0", "1_000", "_1", "1_", "1'000", "$1", "1%", "(1)", "\"1\"", "one", "nil", "NaN", "Inf", "inf", "-inf", "true", "A", "f",
	"é", "1é", "é1", "\u0661", "\u0662\u0663", "\u0967", "\uff11", "\uff10", "-\uff11", "\u00b2", "\u00bd", "\u2460", "\u4e00", "\U0001d7cf", "1\u0301", "1\u200b", "\u200b1", "\ufeff1",
	"\xff", "1\xff", "\xff1", "\xc0\xb1", "\xe0\x80\xb1", "\x80", "1\x80", "\xb1", "\xed\xa0\x80", "\xf0\x9f",
	"\x00", "1\x00", "\x001", "\x00\x00", "1\x002", "/", ":", "1/", "1:", "/1", ":1",
	"9223372036854775808", "9223372036854775809", "9223372036854775817", "9223372036854775810", "9223372036854776807", "10000000000000000000", "18446744073709551615", "18446744073709551616", "18446744073709551617", "99999999999999999999", "340282366920938463463374607431768211456", "340282366920938463463374607431768211457",
	"-9223372036854775809", "-9223372036854775810", "-9223372036854775818", "-10000000000000000000", "-18446744073709551615", "-18446744073709551616", "-18446744073709551617", "-99999999999999999999",
	"09223372036854775807", "-09223372036854775808", "+9223372036854775807",
}

func TestWhatIsNoNumber(t *testing.T) { // P14.1
	for kind := 1; kind <= lastKind; kind++ {
		l := names[kind].named
		for i := range l {
			for _, number := range notNumbers {
				for _, other := range []string{"0", "1", "-25"} {
					parts := slices.Repeat([]string{other}, len(l))
					parts[i] = number
					isOfNone(t, names[kind].word+" "+strings.Join(parts, " "))
				}
			}
		}
		for _, number := range notNumbers {
			isOfNone(t, names[kind].word+strings.Repeat(" "+number, max(1, len(l))))
		}
	}
}

func TestTheGreatestAndTheLeast(t *testing.T) { // P14.1
	great, least := "9223372036854775807", "-9223372036854775808"
	isRead(t, "deliver "+great, api.Step{Kind: api.Deliver, Id: math.MaxInt}, api.OK)
	isRead(t, "deliver "+least, api.Step{Kind: api.Deliver, Id: math.MinInt}, api.OK)
	isOfNone(t, "deliver 9223372036854775808")
	isOfNone(t, "deliver -9223372036854775809")
	isRead(t, "put "+great+" "+least+" "+least+" "+great, api.Step{Kind: api.Puts, Who: math.MaxInt, Label: math.MinInt, Key: math.MinInt, Count: math.MaxInt}, api.OK)
	isOfNone(t, "put "+great+" "+least+" "+least+" 9223372036854775808")
	isOfNone(t, "put -9223372036854775809 "+least+" "+least+" "+great)
	// Every last digits about the ends.
	for _, ahead := range []string{"92233720368547758", "-92233720368547758", "922337203685477580", "-922337203685477580", "9223372036854775", "18446744073709551", "-18446744073709551"} {
		for n := range 100 {
			isReckoned(t, fmt.Sprintf("lose %s%d", ahead, n))
			isReckoned(t, fmt.Sprintf("lose %s%02d", ahead, n))
		}
	}
}

func TestVeryLongLines(t *testing.T) { // P14.1
	const long = 1 << 22
	for _, sign := range []string{" ", "1", "0", "-", "a", "\x00", "\xff", "\n", "é", " 1", "1 ", "tick", "tick ", "ask 1 2 3 "} {
		much := strings.Repeat(sign, long/len(sign))
		isOfNone(t, much)
		for kind := 1; kind <= lastKind; kind++ {
			line := reckoned(filled(kind, 1))
			isOfNone(t, line+much)
			isOfNone(t, line+" "+much)
			isOfNone(t, much+line)
			isOfNone(t, names[kind].word+much)
			isOfNone(t, names[kind].word+" "+much)
			isOfNone(t, names[kind].word+" -"+much)
		}
	}
	zeros := strings.Repeat("0", long)
	isOfNone(t, "lose 1"+zeros)
	isOfNone(t, "lose -1"+zeros)
	isOfNone(t, "lose "+zeros+"1")
	isOfNone(t, "lose -"+zeros+"1")
}

func TestAnyOneByteMoreLessOrOther(t *testing.T) { // P14.1
	for kind := 1; kind <= lastKind; kind++ {
		for _, n := range []int{0, 9, 99, -1, -11} {
			line := reckoned(filled(kind, n))
			for i := range len(line) + 1 {
				for b := range 256 {
					isReckoned(t, line[:i]+string([]byte{byte(b)})+line[i:])
					if i < len(line) {
						isReckoned(t, line[:i]+string([]byte{byte(b)})+line[i+1:])
					}
				}
				if i < len(line) {
					isReckoned(t, line[:i]+line[i+1:])
					isReckoned(t, line[:i])
					isReckoned(t, line[i:])
				}
			}
		}
	}
}

func TestAllShortNumbers(t *testing.T) { // P14.1
	const signs = "-+019 a"
	l := []string{""}
	for range 5 {
		for _, text := range l {
			for _, sign := range signs {
				isReckoned(t, "lose "+text+string(sign))
				isReckoned(t, "tick"+text+string(sign))
				isReckoned(t, "get 1 "+text+string(sign))
			}
		}
		var more []string
		for _, text := range l {
			for _, sign := range signs {
				more = append(more, text+string(sign))
			}
		}
		l = more
	}
}

func TestAllShortTexts(t *testing.T) { // P14.1
	for a := range 256 {
		isOfNone(t, string([]byte{byte(a)}))
		for b := range 256 {
			isOfNone(t, string([]byte{byte(a), byte(b)}))
		}
	}
}

func TestLinesOfPartsByChance(t *testing.T) { // P14.1
	r := rand.New(rand.NewSource(1414))
	parts := []string{" ", " ", " ", " ", "0", "1", "-1", "12", "-", "9223372036854775807", "-9223372036854775808", "9", "+", "\t", "\x00"}
	for _, n := range names[1:] {
		parts = append(parts, n.word)
	}
	read := 0
	for range 100000 {
		line := ""
		if r.Intn(2) == 0 {
			line = names[1+r.Intn(lastKind)].word
			for range r.Intn(6) {
				line += " " + parts[4+r.Intn(8)]
			}
		} else {
			for range r.Intn(9) {
				line += parts[r.Intn(len(parts))]
			}
		}
		isReckoned(t, line)
		if _, ok := reckonedOf(line); ok {
			read++
		}
	}
	if read < 1000 {
		t.Errorf("only %d lines are of a step", read)
	}
}

func TestNoTwoStepsHaveOneLine(t *testing.T) { // P14.1
	seen := map[string]api.Step{}
	for kind := 1; kind <= lastKind; kind++ {
		for set := range 1 << len(names[kind].named) {
			for _, n := range []int{1, -1, 10, 11} {
				s := api.Step{Kind: kind}
				for i, place := range names[kind].named {
					if set>>i&1 == 1 {
						s = put(s, place, n)
					}
				}
				line, _ := desk.Show(s)
				if other, ok := seen[line]; ok && other != s {
					t.Errorf("%+v and %+v: %q", s, other, line)
				}
				seen[line] = s
			}
		}
	}
}

func TestNothingIsKeptFromCallToCall(t *testing.T) { // What holds everywhere
	for range 3 {
		isBoth(t, api.Step{Kind: api.Holding, Who: 1, Item: 2, Count: 3, Life: 4}, "hold 1 2 3 4")
		isShown(t, api.Step{Kind: api.Holding, Key: 1}, "", api.ErrForm)
		isShown(t, api.Step{Kind: 12}, "", api.ErrKind)
		isOfNone(t, "hold 5 6 7 8 ")
		isOfNone(t, "hold 5 6 7")
		isBoth(t, api.Step{Kind: api.Holding}, "hold 0 0 0 0")
		isBoth(t, api.Step{Kind: api.Ticks}, "tick")
	}
}

// Example is what README.md tells of desk.
func Example() {
	fmt.Println(desk.Show(api.Step{Kind: api.Holding, Who: 1, Item: 0, Count: 2, Life: 3}))
	fmt.Println(desk.Show(api.Step{Kind: api.Ticks}))
	fmt.Println(desk.Show(api.Step{Kind: api.Ticks, Who: 1}))
	fmt.Println(desk.Read("put 1 0 2 9"))
	fmt.Println(desk.Read("deliver -1"))
	fmt.Println(desk.Read("deliver 01"))
	// Output:
	// hold 1 0 2 3 0
	// tick 0
	//  4
	// {7 1 0 9 0 0 0 2} 0
	// {10 0 0 0 0 -1 0 0} 0
	// {0 0 0 0 0 0 0 0} 4
}
