package street

import (
	"slices"

	"wayzgoose/api"
)

// extend returns a new list of the items of l and those after them. Truths
// that differ in their last step are made of the same beginning, which append
// could let them share.
func extend[T any](l []T, items ...T) []T {
	return append(slices.Clone(l), items...)
}

// gather returns a new list of all places of the lists, in their order and
// each one once.
func gather(lists ...[]api.Place) []api.Place {
	all := slices.Concat(lists...)
	slices.SortFunc(all, comparePlaces)
	return slices.Compact(all)
}

// least returns the first item whose cost is least, and its cost; l has an
// item.
func least[T any](l []T, cost func(T) int) (T, int) {
	best, low := l[0], cost(l[0])
	for _, x := range l[1:] {
		if n := cost(x); n < low {
			best, low = x, n
		}
	}
	return best, low
}
