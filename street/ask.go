package street

import (
	"slices"

	"wayzgoose/api"
)

// split says to which group each truth belongs. Groups are numbered from 0 in
// the order of their first truths.
type split []int

// group splits n truths such that two of them are in one group if same says so
// of the later and the earlier one.
func group(n int, same func(i, j int) bool) split {
	s, groups := make(split, n), 0
	for i := range s {
		s[i] = groups
		for j := range i {
			if same(i, j) {
				s[i] = s[j]
				break
			}
		}
		if s[i] == groups {
			groups++
		}
	}
	return s
}

// groups returns the number of groups.
func (s split) groups() int {
	n := 0
	for _, g := range s {
		n = max(n, g+1)
	}
	return n
}

// largest returns how many truths the largest group has.
func (s split) largest() int {
	sizes := make([]int, len(s))
	for _, g := range s {
		sizes[g]++
	}
	n := 0
	for _, size := range sizes {
		n = max(n, size)
	}
	return n
}

// and splits each group of s as r does.
func (s split) and(r split) split {
	return group(len(s), func(i, j int) bool { return s[i] == s[j] && r[i] == r[j] })
}

// answers splits truths by the answers of a house.
func answers(all []truth, house api.Place) split {
	return group(len(all), func(i, j int) bool {
		return slices.Equal(all[i].fate[house], all[j].fate[house])
	})
}

// Ask returns the house that should be asked for first, and how many truths
// are left at most after its answer.
func Ask(s api.Story) (house api.Place, left int, e api.Errno) {
	t, e := begin(s)
	if e != api.OK {
		return api.Place{}, 0, e
	}
	if len(t.houses) == 0 {
		return api.Place{}, 0, api.ErrNone
	}
	all := slices.Collect(t.truths())
	house, left = least(t.houses, func(h api.Place) int { return answers(all, h).largest() })
	if left == len(all) {
		return api.Place{}, 0, api.ErrNone
	}
	return house, left, api.OK
}

// Settle returns the fewest houses whose answers settle those of all houses.
func Settle(s api.Story) ([]api.Place, api.Errno) {
	t, e := begin(s)
	if e != api.OK {
		return nil, e
	}
	all := slices.Collect(t.truths())
	if len(all) == 0 {
		return nil, api.ErrNone
	}
	g := newSettling(all, t.houses)
	// All houses together settle everything, so this ends.
	for n := 0; ; n++ {
		if l, ok := g.choose(make(split, len(all)), 0, n); ok {
			return l, api.OK
		}
	}
}

// settling is the search for the fewest houses.
type settling struct {
	houses []api.Place
	splits []split // by the answers of each house
	later  []split // by the answers of each house and all after it
}

func newSettling(all []truth, houses []api.Place) settling {
	g := settling{houses: houses, later: make([]split, len(houses)+1)}
	for _, h := range houses {
		g.splits = append(g.splits, answers(all, h))
	}
	g.later[len(houses)] = make(split, len(all))
	for i := len(houses) - 1; i >= 0; i-- {
		g.later[i] = g.later[i+1].and(g.splits[i])
	}
	return g
}

// choose returns the first list of n houses, from the one with the index at
// on, that settle what sofar has not yet settled.
func (g settling) choose(sofar split, at, n int) ([]api.Place, bool) {
	groups, goal := sofar.groups(), g.later[0].groups()
	if groups == goal {
		return nil, true
	}
	if n == 0 || sofar.and(g.later[at]).groups() < goal {
		return nil, false
	}
	for i := at; i < len(g.houses); i++ {
		next := sofar.and(g.splits[i])
		// Of the fewest houses none is needless.
		if next.groups() == groups {
			continue
		}
		if l, ok := g.choose(next, i+1, n-1); ok {
			return slices.Insert(l, 0, g.houses[i]), true
		}
	}
	return nil, false
}
