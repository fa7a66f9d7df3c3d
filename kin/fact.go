package kin

import (
	"cmp"
	"math/bits"
	"slices"

	"wayzgoose/api"
)

// set is facts, as bits.
type set uint8

func (s set) with(n int) set { return s | 1<<n }

func (s set) has(n int) bool { return s>>n&1 == 1 }

func (s set) hasAll(other set) bool { return s&other == other }

func (s set) size() int { return bits.OnesCount8(uint8(s)) }

// list returns the numbers of the facts, ascending.
func (s set) list() []int {
	var l []int
	for n := range api.MaxTies {
		if s.has(n) {
			l = append(l, n)
		}
	}
	return l
}

// compare compares two sets: the one with fewer facts is less, of as many the
// one whose list comes first.
func (s set) compare(t set) int {
	return cmp.Or(cmp.Compare(s.size(), t.size()), slices.Compare(s.list(), t.list()))
}

// all returns all facts.
func (f *folk) all() set { return 1<<len(f.Facts) - 1 }

// agree reports whether there is a truth with some facts alone.
func (f *folk) agree(facts set) bool {
	some := false
search:
	for p := range f.pairings() {
		for past := range f.pasts {
			if f.allows(truth{past, p}, facts) {
				some = true
				break search
			}
		}
	}
	return some
}

// clash reports whether there is no truth with some facts alone.
func (f *folk) clash(facts set) bool { return !f.agree(facts) }

// agreeWithout reports whether there is a truth without some facts.
func (f *folk) agreeWithout(facts set) bool { return f.agree(f.all() &^ facts) }

// fewest returns the fewest facts that are good, the first ones of several, or
// panics with ErrNone.
func (f *folk) fewest(good func(set) bool) set {
	var l []set
	for s := range f.all() + 1 {
		if good(s) {
			l = append(l, s)
		}
	}
	hold(len(l) > 0, api.ErrNone)
	return first(l, set.compare)
}

// Wrong returns the fewest facts that have to be left out so that there is a
// truth.
func Wrong(k api.Kin) ([]int, api.Errno) {
	return caught(func() []int {
		f := open(k)
		return f.fewest(f.agreeWithout).list()
	})
}

// Clash returns the fewest facts that already leave no truth.
func Clash(k api.Kin) ([]int, api.Errno) {
	return caught(func() []int {
		f := open(k)
		return f.fewest(f.clash).list()
	})
}

// Add returns kin with one fact more.
func Add(k api.Kin, x api.Tie) (api.Kin, api.Errno) {
	return caught(func() api.Kin {
		f := begin(k)
		hold(len(f.Facts) < api.MaxTies, api.ErrFull)
		must(f.checkFact(x, f.Facts))
		before := f.all()
		f.Kin = clone(k)
		f.Facts = append(f.Facts, x)
		f.fill()
		hold(f.agree(f.all()) || f.clash(before), api.ErrClash)
		return f.Kin
	})
}

// clone returns kin that share no memory with k.
func clone(k api.Kin) api.Kin {
	k.Story.First.Streets = slices.Clone(k.Story.First.Streets)
	for i, row := range k.Story.First.Streets {
		k.Story.First.Streets[i] = slices.Clone(row)
	}
	k.Story.Steps = slices.Clone(k.Story.Steps)
	for i, step := range k.Story.Steps {
		k.Story.Steps[i].Ways = slices.Clone(step.Ways)
	}
	k.Story.Facts = slices.Clone(k.Story.Facts)
	k.Trades.Classes = slices.Clone(k.Trades.Classes)
	k.Trades.Heads = slices.Clone(k.Trades.Heads)
	for i, h := range k.Trades.Heads {
		k.Trades.Heads[i].Also = slices.Clone(h.Also)
	}
	k.Rules = slices.Clone(k.Rules)
	k.Before, k.After = slices.Clone(k.Before), slices.Clone(k.After)
	k.Facts = slices.Clone(k.Facts)
	return k
}
