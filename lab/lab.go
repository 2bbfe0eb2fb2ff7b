// Package lab: see doc/01-lab.md.
package lab

import "splittally/api"

// all is the label of all branches: a number with any bit beside its bits (as each below 0 has) is no label.
const all = 1<<api.MaxBranches - 1

func May(s int) bool { return s&^all == 0 }

// Join may only take readers away: what hangs on two things would tell of both.
func Join(a, b int) (int, api.Errno) {
	return ofTwo(a, b, func(a, b int) int { return a & b })
}

func Meet(a, b int) (int, api.Errno) {
	return ofTwo(a, b, func(a, b int) int { return a | b })
}

// Flows refuses a reader of b that a has not: it would learn what it may not read.
func Flows(a, b int) (bool, api.Errno) {
	return ofTwo(a, b, func(a, b int) bool { return b&^a == 0 })
}

func Members(s int) ([]int, api.Errno) {
	if !May(s) {
		return nil, api.ErrRange
	}
	var l []int
	for k := range api.MaxBranches {
		if s&bit(k) != 0 {
			l = append(l, k)
		}
	}
	return l, api.OK
}

func Of(l []int) (int, api.Errno) {
	s, twice := 0, false
	for _, k := range l {
		if !isBranch(k) {
			return 0, api.ErrRange
		}
		// Not refused yet: one that is no branch may still come, and that is named first.
		twice = twice || s&bit(k) != 0
		s |= bit(k)
	}
	if twice {
		return 0, api.ErrTwice
	}
	return s, api.OK
}

// ofTwo refuses what is no label once for all that is asked of two, whatever kind of answer that has.
func ofTwo[T any](a, b int, ask func(a, b int) T) (T, api.Errno) {
	if !May(a) || !May(b) {
		var zero T
		return zero, api.ErrRange
	}
	return ask(a, b), api.OK
}

func isBranch(k int) bool { return 0 <= k && k < api.MaxBranches }

func bit(k int) int { return 1 << k }
