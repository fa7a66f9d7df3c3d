package kin

import (
	"cmp"
	"slices"

	"wayzgoose/api"
)

// first returns the first of some items by an order; there is one.
func first[T any](l []T, compare func(a, b T) int) T {
	best := l[0]
	for _, x := range l[1:] {
		if compare(x, best) < 0 {
			best = x
		}
	}
	return best
}

// compare compares two truths: the better one is less.
func (f *folk) compare(t, u truth) int {
	return cmp.Or(
		cmp.Compare(u.size(), t.size()),
		cmp.Compare(f.moved(t), f.moved(u)),
		slices.CompareFunc(t.pairs(), u.pairs(), slices.Compare[[]int]),
	)
}

// Best returns the pairs of the best truth.
func Best(k api.Kin) ([][]int, api.Errno) {
	return caught(func() [][]int {
		f := open(k)
		return first(f.someTruths(), f.compare).pairs()
	})
}

// question is whether an old one and a new one are a pair, and how many truths
// are left at most after the answer.
type question struct{ a, b, left int }

// compare compares two questions: the better one is less.
func (q question) compare(r question) int {
	return cmp.Or(cmp.Compare(q.left, r.left), cmp.Compare(q.a, r.a), cmp.Compare(q.b, r.b))
}

// census is how many truths have each pairing.
type census map[pairing]int

// with returns how many truths have a pair.
func (c census) with(a, b int) int {
	sum := 0
	for p, n := range c {
		if p.has(a, b) {
			sum += n
		}
	}
	return sum
}

// ask returns the best question, or panics with ErrNone if each one has the
// same answer in all truths.
func (f *folk) ask() question {
	truths := f.someTruths()
	isOther := func(t truth) bool { return t.pairing != truths[0].pairing }
	hold(slices.ContainsFunc(truths, isOther), api.ErrNone)
	c := census{}
	for _, t := range truths {
		c[t.pairing]++
	}
	var questions []question
	for a := range f.Before {
		for b := range f.After {
			yes := c.with(a, b)
			questions = append(questions, question{a, b, max(yes, len(truths)-yes)})
		}
	}
	return first(questions, question.compare)
}

// Ask returns the question that should be asked first, and how many truths are
// left at most after the answer.
func Ask(k api.Kin) (a, b, left int, e api.Errno) {
	q, e := caught(func() question { return open(k).ask() })
	return q.a, q.b, q.left, e
}
