package round

import (
	"iter"
	"slices"

	"wayzgoose/api"
)

// takes returns the minutes that a walk takes if no door opens, and if all do.
func (g *ground) takes(walk []int) api.Span {
	low, talk, at := 0, 0, office
	for _, d := range walk {
		low += g.way(at, d) + g.Knock
		talk += g.Doors[d].Talk
		at = d
	}
	low += g.way(at, office)
	return api.Span{Low: low, High: low + talk}
}

// safety returns whether a walk is over in time.
func (g *ground) safety(walk []int) int {
	t := g.takes(walk)
	switch {
	case t.High <= g.Minutes:
		return api.Sure
	case t.Low > g.Minutes:
		return api.Out
	}
	return api.Open
}

// leastWays returns the minutes of the ways of the shortest walk of some doors.
// The ways are those of a tree, of which the streets are the branches: a walk
// takes each piece that leads to one of its doors at least twice, and one that
// goes from branch to branch, and in each one from door to door, just twice.
func (g *ground) leastWays(s doors) int {
	street := 0
	var at [api.MaxStreets]int
	for _, d := range list(s) {
		door := g.Doors[d]
		street = max(street, door.Street)
		at[door.Street] = max(at[door.Street], door.At)
	}
	minutes := g.Corner * street
	for _, n := range at {
		minutes += n
	}
	return 2 * minutes
}

// safe reports whether the shortest walk of some doors is safe.
func (g *ground) safe(s doors) bool {
	minutes := g.leastWays(s)
	for _, d := range list(s) {
		minutes += g.Knock + g.Doors[d].Talk
	}
	return minutes <= g.Minutes
}

// orders goes through all orders of some doors, in lexicographic order.
func orders(s doors) iter.Seq[[]int] {
	return func(yield func([]int) bool) {
		var grow func(order []int, rest doors) bool
		grow = func(order []int, rest doors) bool {
			if rest == 0 {
				return yield(slices.Clone(order))
			}
			for _, d := range list(rest) {
				if !grow(append(order, d), rest.without(d)) {
					return false
				}
			}
			return true
		}
		grow(nil, s)
	}
}

// shortest returns the shortest walk of some doors: the first order whose ways
// take the least minutes.
func (g *ground) shortest(s doors) []int {
	least := g.leastWays(s)
	var walk []int
search:
	for walk = range orders(s) {
		minutes, at := 0, office
		for _, d := range walk {
			minutes += g.way(at, d)
			at = d
			// A way home never is longer than one with more doors on it.
			if minutes+g.way(at, office) > least {
				continue search
			}
		}
		break search
	}
	return walk
}

// divide returns the groups of the walks of some doors, in their order, and
// false if there are none.
func (g *ground) divide(s doors) ([]doors, bool) {
	for n := range s.count() + 1 {
		if groups, ok := g.place(list(s), nil, n); ok {
			return groups, true
		}
	}
	return nil, false
}

// place returns the first way to put the doors of a list into groups, of which
// there are at most n in the end.
func (g *ground) place(list []int, groups []doors, n int) ([]doors, bool) {
	if len(list) == 0 {
		return groups, true
	}
	for i := range min(len(groups)+1, n) {
		next := make([]doors, max(len(groups), i+1))
		copy(next, groups)
		next[i] = next[i].with(list[0])
		// A group that is not safe is not so with more doors either.
		if !g.safe(next[i]) {
			continue
		}
		if all, ok := g.place(list[1:], next, n); ok {
			return all, true
		}
	}
	return nil, false
}

// Takes returns the least and the greatest number of minutes of a walk.
func Takes(g api.Ground, walk []int) (api.Span, api.Errno) {
	w, _, e := beginWith(g, walk)
	if e != api.OK {
		return api.Span{}, e
	}
	return w.takes(walk), api.OK
}

// Safe returns whether a walk is over in time, whatever doors open.
func Safe(g api.Ground, walk []int) (int, api.Errno) {
	w, _, e := beginWith(g, walk)
	if e != api.OK {
		return 0, e
	}
	return w.safety(walk), api.OK
}

// Shortest returns the shortest walk of some doors.
func Shortest(g api.Ground, doors []int) ([]int, api.Errno) {
	w, s, e := beginWith(g, doors)
	if e != api.OK {
		return nil, e
	}
	return w.shortest(s), api.OK
}

// Walks returns the fewest safe walks in which some doors are.
func Walks(g api.Ground, doors []int) ([][]int, api.Errno) {
	w, s, e := beginWith(g, doors)
	if e != api.OK {
		return nil, e
	}
	groups, ok := w.divide(s)
	if !ok {
		return nil, api.ErrNone
	}
	var walks [][]int
	for _, group := range groups {
		walks = append(walks, w.shortest(group))
	}
	return walks, api.OK
}
