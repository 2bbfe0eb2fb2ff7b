package lab_test

import (
	"fmt"
	"math"
	"slices"
	"testing"

	"splittally/api"
	"splittally/lab"
)

// labels is how many labels there are: 0 up to the label of all branches.
const labels = 256

// noLabels are numbers that are no labels: next to the ends, single high bits, labels with a bit too many, the ends of all numbers.
var noLabels = []int{256, 257, 511, 512, 65535, 1 << 31, 1 << 32, 1<<32 + 5, 1 << 62, math.MaxInt, -1, -2, -255, -256, -257, math.MinInt, math.MinInt + 255}

// noBranches are numbers that are no branches.
var noBranches = []int{8, 9, 63, 64, 65, 255, 256, 1 << 32, math.MaxInt, -1, -8, -63, -64, math.MinInt}

// reads tells whether the branch k is in the label s, worked out without bits.
func reads(s, k int) bool {
	for range k {
		s /= 2
	}
	return s%2 == 1
}

// label is the label of the branches for which in holds, worked out without bits.
func label(in func(k int) bool) int {
	s, weight := 0, 1
	for k := range 8 {
		if in(k) {
			s += weight
		}
		weight *= 2
	}
	return s
}

func TestMayAllowsJustTheLabels(t *testing.T) { // P1.1
	for s := -2000; s <= 2000; s++ {
		if got, want := lab.May(s), s >= 0 && s < labels; got != want {
			t.Errorf("May(%d): %v, want %v", s, got, want)
		}
	}
	for _, s := range noLabels {
		if lab.May(s) {
			t.Errorf("May(%d): true, want false", s)
		}
	}
}

// refused checks what the calls that take two labels answer, if a or b is none.
func refused(t *testing.T, a, b int) {
	t.Helper()
	if s, e := lab.Join(a, b); s != 0 || e != api.ErrRange {
		t.Errorf("Join(%d, %d): %d %d, want 0 %d", a, b, s, e, api.ErrRange)
	}
	if s, e := lab.Meet(a, b); s != 0 || e != api.ErrRange {
		t.Errorf("Meet(%d, %d): %d %d, want 0 %d", a, b, s, e, api.ErrRange)
	}
	if ok, e := lab.Flows(a, b); ok || e != api.ErrRange {
		t.Errorf("Flows(%d, %d): %v %d, want false %d", a, b, ok, e, api.ErrRange)
	}
}

func TestWhatIsNoLabelIsRefused(t *testing.T) { // P1.1
	for _, wrong := range noLabels {
		for _, s := range []int{0, 1, 12, 128, 254, 255} {
			refused(t, wrong, s)
			refused(t, s, wrong)
		}
		for _, other := range noLabels {
			refused(t, wrong, other)
		}
		if l, e := lab.Members(wrong); len(l) != 0 || e != api.ErrRange {
			t.Errorf("Members(%d): %v %d, want [] %d", wrong, l, e, api.ErrRange)
		}
	}
}

func TestJoinMeetAndFlowsOfAllPairs(t *testing.T) { // P1.2
	for a := range labels {
		for b := range labels {
			both := label(func(k int) bool { return reads(a, k) && reads(b, k) })
			one := label(func(k int) bool { return reads(a, k) || reads(b, k) })
			if s, e := lab.Join(a, b); s != both || e != api.OK {
				t.Errorf("Join(%d, %d): %d %d, want %d 0", a, b, s, e, both)
			}
			if s, e := lab.Meet(a, b); s != one || e != api.OK {
				t.Errorf("Meet(%d, %d): %d %d, want %d 0", a, b, s, e, one)
			}
			// All that may read b may read a, just if b is all that may read both.
			if ok, e := lab.Flows(a, b); ok != (both == b) || e != api.OK {
				t.Errorf("Flows(%d, %d): %v %d, want %v 0", a, b, ok, e, both == b)
			}
		}
	}
}

func TestJoinMeetAndFlowsAtTheEnds(t *testing.T) { // P1.2
	for s := range labels {
		for _, c := range []struct {
			what string
			got  func() (int, api.Errno)
			want int
		}{
			{"Join with none", func() (int, api.Errno) { return lab.Join(s, 0) }, 0},
			{"Join with all", func() (int, api.Errno) { return lab.Join(255, s) }, s},
			{"Join with itself", func() (int, api.Errno) { return lab.Join(s, s) }, s},
			{"Meet with none", func() (int, api.Errno) { return lab.Meet(0, s) }, s},
			{"Meet with all", func() (int, api.Errno) { return lab.Meet(s, 255) }, 255},
			{"Meet with itself", func() (int, api.Errno) { return lab.Meet(s, s) }, s},
		} {
			if got, e := c.got(); got != c.want || e != api.OK {
				t.Errorf("%s, of %d: %d %d, want %d 0", c.what, s, got, e, c.want)
			}
		}
		for _, c := range []struct {
			a, b int
			want bool
		}{{s, 0, true}, {255, s, true}, {s, s, true}, {0, s, s == 0}, {s, 255, s == 255}} {
			if got, e := lab.Flows(c.a, c.b); got != c.want || e != api.OK {
				t.Errorf("Flows(%d, %d): %v %d, want %v 0", c.a, c.b, got, e, c.want)
			}
		}
	}
}

func TestMembersAndOfAreEachOthersWayBack(t *testing.T) { // P1.3
	for s := range labels {
		var want []int
		for k := range 8 {
			if reads(s, k) {
				want = append(want, k)
			}
		}
		l, e := lab.Members(s)
		if !slices.Equal(l, want) || e != api.OK {
			t.Errorf("Members(%d): %v %d, want %v 0", s, l, e, want)
		}
		if got, e := lab.Of(want); got != s || e != api.OK {
			t.Errorf("Of(%v): %d %d, want %d 0", want, got, e, s)
		}
		slices.Reverse(want)
		if got, e := lab.Of(want); got != s || e != api.OK {
			t.Errorf("Of(%v): %d %d, want %d 0", want, got, e, s)
		}
	}
}

// isOf checks what Of answers, at a list.
func isOf(t *testing.T, l []int, want int, code api.Errno) {
	t.Helper()
	if got, e := lab.Of(l); got != want || e != code {
		t.Errorf("Of(%v): %d %d, want %d %d", l, got, e, want, code)
	}
}

func TestOfInAnyOrder(t *testing.T) { // P1.3
	isOf(t, nil, 0, api.OK)
	isOf(t, []int{}, 0, api.OK)
	isOf(t, []int{0}, 1, api.OK)
	isOf(t, []int{7}, 128, api.OK)
	isOf(t, []int{3, 7, 0}, 137, api.OK)
	isOf(t, []int{6, 1, 7, 0, 3, 5, 2, 4}, 255, api.OK)
}

func TestOfRefusesWhatIsToldTwice(t *testing.T) { // P1.3
	for k := range 8 {
		other := (k + 3) % 8
		isOf(t, []int{k, k}, 0, api.ErrTwice)
		isOf(t, []int{k, other, k}, 0, api.ErrTwice)
		isOf(t, []int{other, k, k}, 0, api.ErrTwice)
		isOf(t, []int{k, k, other}, 0, api.ErrTwice)
		isOf(t, []int{k, k, k}, 0, api.ErrTwice)
		isOf(t, []int{k, other, other, k}, 0, api.ErrTwice)
	}
	isOf(t, make([]int, 100000), 0, api.ErrTwice)
}

func TestOfRefusesWhatIsNoBranchAheadOfAllElse(t *testing.T) { // P1.3
	for _, wrong := range noBranches {
		isOf(t, []int{wrong}, 0, api.ErrRange)
		isOf(t, []int{wrong, wrong}, 0, api.ErrRange)
		isOf(t, []int{0, wrong, 7}, 0, api.ErrRange)
		isOf(t, []int{wrong, 3, 3}, 0, api.ErrRange)
		isOf(t, []int{3, wrong, 3}, 0, api.ErrRange)
		isOf(t, []int{3, 3, wrong}, 0, api.ErrRange)
		isOf(t, []int{3, 3, 0, 1, 2, 4, 5, 6, 7, wrong}, 0, api.ErrRange)
	}
	isOf(t, append(make([]int, 100000), 8), 0, api.ErrRange)
}

func TestOfLeavesItsListAndTheRoomBehindIt(t *testing.T) { // 'What holds everywhere'
	for _, c := range [][]int{{5, 2, 0}, {5, 2, 5}, {5, 5, 8}} {
		room := []int{c[0], c[1], c[2], 41, 42}
		before := slices.Clone(room)
		lab.Of(room[:3])
		if !slices.Equal(room, before) {
			t.Errorf("Of(%v) made of %v: %v", c, before, room)
		}
	}
}

func TestMembersAnswersNewMemory(t *testing.T) { // 'What holds everywhere'
	for s := range labels {
		first, _ := lab.Members(s)
		second, _ := lab.Members(s)
		want := slices.Clone(second)
		first = first[:cap(first)]
		for i := range first {
			first[i] = -1
		}
		third, _ := lab.Members(s)
		if !slices.Equal(second, want) || !slices.Equal(third, want) {
			t.Errorf("Members(%d): %v and %v behind a change of another answer, want %v", s, second, third, want)
		}
		if len(second) > 0 && &second[0] == &third[0] {
			t.Errorf("Members(%d): two answers share memory", s)
		}
	}
}

// Example: as README.md tells it.
func Example() {
	a, _ := lab.Of([]int{0, 3})
	b, _ := lab.Of([]int{3, 5})
	both, _ := lab.Join(a, b)
	fmt.Println(lab.Members(both))
	fmt.Println(lab.Flows(a, both))
	fmt.Println(lab.Of([]int{3, 3}))
	// Output:
	// [3] 0
	// true 0
	// 0 7
}
