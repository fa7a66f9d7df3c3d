package proof

import (
	"cmp"
	"iter"
	"slices"

	"wayzgoose/api"
)

// orders goes through all orders of the numbers below n, in lexicographic order.
func orders(n int) iter.Seq[[]int] {
	return func(yield func([]int) bool) {
		var grow func(order []int) bool
		grow = func(order []int) bool {
			if len(order) == n {
				return yield(slices.Clone(order))
			}
			for next := range n {
				if !slices.Contains(order, next) && !grow(append(order, next)) {
					return false
				}
			}
			return true
		}
		grow(nil)
	}
}

// highest returns how many lines a page that has some lines now has at most
// while marks are made in an order.
func highest(lines int, l []api.Mark, order []int) int {
	most := lines
	for _, i := range order {
		use := uses()[l[i].Kind]
		lines += use[1] - use[0]
		most = max(most, lines)
	}
	return most
}

// checkSteps returns the first error of arguments of Steps.
func checkSteps(page []string, l []api.Mark, most int) api.Errno {
	if e := cmp.Or(Check(page), checkMarks(page, l)); e != api.OK {
		return e
	}
	switch {
	case len(l) > api.MaxOrder:
		return api.ErrFull
	case most < 0:
		return api.ErrRange
	case len(page) > most:
		return api.ErrShut
	}
	return api.OK
}

// Steps returns an order in which marks can be made one after the other such
// that there are never more than most lines.
func Steps(page []string, l []api.Mark, most int) ([]int, api.Errno) {
	if e := checkSteps(page, l, most); e != api.OK {
		return nil, e
	}
	for order := range orders(len(l)) {
		if highest(len(page), l, order) <= most {
			return order, api.OK
		}
	}
	return nil, api.ErrNone
}
