package proof

import (
	"cmp"
	"iter"
	"slices"

	"wayzgoose/api"
)

// uses returns how many lines each kind takes from a page, and how many it gives
// to the page that is made of it.
func uses() [takeOut + 1][2]int {
	return [...][2]int{stay: {1, 1}, putIn: {0, 1}, setAnew: {1, 1}, takeOut: {1, 0}}
}

// compareLists compares two lists of marks: the better one is less.
func compareLists(a, b []api.Mark) int {
	return cmp.Or(
		cmp.Compare(costOf(a), costOf(b)),
		cmp.Compare(len(a), len(b)),
		slices.CompareFunc(a, b, compareMarks),
	)
}

// least returns the least of some items; there is one.
func least[T any](items iter.Seq[T], compare func(a, b T) int) T {
	var found T
	some := false
	for x := range items {
		if !some || compare(x, found) < 0 {
			found, some = x, true
		}
	}
	return found
}

// pair is two pages: the second one is to be made of the first one.
type pair struct{ old, page []string }

// place is how many lines of both pages are done.
type place [2]int

// begin returns what a kind does from a place on: its mark, if it is one, and
// the place behind it; false if this cannot be.
func (p pair) begin(kind int, from place) (first []api.Mark, to place, ok bool) {
	use := uses()[kind]
	to = place{from[0] + use[0], from[1] + use[1]}
	if to[0] > len(p.old) || to[1] > len(p.page) {
		return nil, to, false
	}
	switch kind {
	case stay:
		return nil, to, p.old[from[0]] == p.page[from[1]]
	case takeOut:
		return []api.Mark{{Kind: kind, At: from[0]}}, to, true
	}
	return []api.Mark{{Kind: kind, At: from[0], Text: p.page[from[1]]}}, to, true
}

// lists goes through lists of marks that lead from a place to the end: the best
// one of each kind that can be there first.
func (p pair) lists(from place, best func(place) []api.Mark) iter.Seq[[]api.Mark] {
	return func(yield func([]api.Mark) bool) {
		for kind := stay; kind <= takeOut; kind++ {
			first, to, ok := p.begin(kind, from)
			if ok && !yield(append(first, best(to)...)) {
				return
			}
		}
	}
}

// diff returns the best list of marks.
func (p pair) diff() []api.Mark {
	end := place{len(p.old), len(p.page)}
	known := map[place][]api.Mark{}
	var best func(from place) []api.Mark
	best = func(from place) []api.Mark {
		if l, ok := known[from]; ok || from == end {
			return l
		}
		l := least(p.lists(from, best), compareLists)
		known[from] = l
		// The place one line on in both pages is asked for from this one, and
		// from two others that this one has asked for: all have got their lists.
		delete(known, place{from[0] + 1, from[1] + 1})
		return l
	}
	return best(place{})
}

// Diff returns the marks that make a page out of an old one with the least cost.
func Diff(old, page []string) ([]api.Mark, api.Errno) {
	if e := cmp.Or(Check(old), Check(page)); e != api.OK {
		return nil, e
	}
	return pair{old, page}.diff(), api.OK
}
