package kin

import (
	"slices"

	"wayzgoose/api"
)

// verdict returns whether something is so in truths, of which there is one.
func verdict(truths []truth, is func(truth) bool) int {
	isNot := func(t truth) bool { return !is(t) }
	switch {
	case !slices.ContainsFunc(truths, isNot):
		return api.Sure
	case !slices.ContainsFunc(truths, is):
		return api.Out
	}
	return api.Open
}

// pairVerdict returns whether two people are a pair.
func pairVerdict(truths []truth, a, b int) int {
	return verdict(truths, func(t truth) bool { return t.has(a, b) })
}

// pairsOf returns all pairs that have one of some verdicts.
func (f *folk) pairsOf(verdicts ...int) [][]int {
	truths := f.someTruths()
	var l [][]int
	for a := range f.Before {
		for b := range f.After {
			if slices.Contains(verdicts, pairVerdict(truths, a, b)) {
				l = append(l, []int{a, b})
			}
		}
	}
	return l
}

// numbers returns what is counted, or found, in each truth.
func (f *folk) numbers(count func(truth) int) []int {
	var l []int
	for _, t := range f.someTruths() {
		l = append(l, count(t))
	}
	return l
}

// different returns all different numbers, ascending.
func different(numbers []int) []int {
	slices.Sort(numbers)
	return slices.Compact(numbers)
}

// span returns the least and the greatest of some numbers.
func span(numbers ...int) api.Span {
	return api.Span{Low: slices.Min(numbers), High: slices.Max(numbers)}
}

// Pairs returns all pairs that are in some truth.
func Pairs(k api.Kin) ([][]int, api.Errno) {
	return caught(func() [][]int { return open(k).pairsOf(api.Sure, api.Open) })
}

// Must returns all pairs that are in every truth.
func Must(k api.Kin) ([][]int, api.Errno) {
	return caught(func() [][]int { return open(k).pairsOf(api.Sure) })
}

// Verdict returns whether an old one and a new one are a pair.
func Verdict(k api.Kin, a, b int) (int, api.Errno) {
	return caught(func() int {
		f := open(k)
		hold(f.isOld(a) && f.isNew(b), api.ErrNoSuch)
		return pairVerdict(f.someTruths(), a, b)
	})
}

// Fate returns all new ones with whom an old one can be a pair.
func Fate(k api.Kin, a int) ([]int, api.Errno) {
	return caught(func() []int {
		f := open(k)
		hold(f.isOld(a), api.ErrNoSuch)
		return different(f.numbers(func(t truth) int { return t.pairing[a] }))
	})
}

// Origin returns all old ones with whom a new one can be a pair.
func Origin(k api.Kin, b int) ([]int, api.Errno) {
	return caught(func() []int {
		f := open(k)
		hold(f.isNew(b), api.ErrNoSuch)
		return different(f.numbers(func(t truth) int { return t.origin(b) }))
	})
}

// Stays returns whether an old one is in a pair that stays.
func Stays(k api.Kin, a int) (int, api.Errno) {
	return caught(func() int {
		f := open(k)
		hold(f.isOld(a), api.ErrNoSuch)
		return verdict(f.someTruths(), func(t truth) bool { return f.staysAs(t, a) })
	})
}

// Gone returns the least and the greatest number of old ones that have gone.
func Gone(k api.Kin) (api.Span, api.Errno) {
	return caught(func() api.Span {
		f := open(k)
		return span(f.numbers(f.gone)...)
	})
}

// New returns the least and the greatest number of new ones that have come.
func New(k api.Kin) (api.Span, api.Errno) {
	return caught(func() api.Span {
		f := open(k)
		return span(f.numbers(f.come)...)
	})
}

// Moved returns the least and the greatest number of pairs that have moved.
func Moved(k api.Kin) (api.Span, api.Errno) {
	return caught(func() api.Span {
		f := open(k)
		return span(f.numbers(f.moved)...)
	})
}

// changed returns how many people have gone, come and moved.
func (f *folk) changed(t truth) int { return f.gone(t) + f.come(t) + f.moved(t) }

// Least returns how many people have gone, come and moved at least, whatever
// the limits are.
func Least(k api.Kin) (int, api.Errno) {
	return caught(func() int {
		f := open(k)
		// No more people than that can go, come or move.
		f.Gone, f.New, f.Moved = api.MaxKin, api.MaxKin, api.MaxKin
		return span(f.numbers(f.changed)...).Low
	})
}
