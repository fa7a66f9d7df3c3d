package part

import (
	"cmp"
	"iter"
	"math/bits"
	"slices"
)

// set is a set of lines by their numbers: the bit n is the number n.
type set uint16

func (s set) has(n int) bool { return s>>n&1 == 1 }

func (s set) with(n int) set { return s | 1<<n }

func (s set) hasAll(other set) bool { return s&other == other }

func (s set) size() int { return bits.OnesCount16(uint16(s)) }

// list returns the numbers of a set, ascending.
func (s set) list() []int {
	var l []int
	for n := range bits.Len16(uint16(s)) {
		if s.has(n) {
			l = append(l, n)
		}
	}
	return l
}

// compare compares two sets: the one with fewer numbers is less, of as many the
// one whose list comes first.
func (s set) compare(t set) int {
	return cmp.Or(cmp.Compare(s.size(), t.size()), slices.Compare(s.list(), t.list()))
}

// sets goes through all good sets of numbers below n.
func sets(n int, good func(set) bool) iter.Seq[set] {
	return func(yield func(set) bool) {
		for s := range set(1) << n {
			if good(s) && !yield(s) {
				return
			}
		}
	}
}

// least returns the least of some items; there is one.
func least[T any](items iter.Seq[T], compare func(a, b T) int) T {
	var found T
	some := false
	for x := range items {
		if !some || compare(x, found) < 0 {
			found, some = x, true
		}
	}
	return found
}
