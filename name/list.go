package name

import (
	"iter"
	"slices"

	"wayzgoose/api"
)

// readList returns a list of names at work, or its first error.
func readList(l []string) ([]spelling, error) {
	if len(l) > api.MaxNames {
		return nil, wrongString{api.ErrFull}
	}
	return readAll(l...)
}

func inOrder(l []spelling) bool { return slices.IsSortedFunc(l, spelling.compare) }

// without returns the names whose indices are not in a list.
func without(l []spelling, indices []int) []spelling {
	var rest []spelling
	for i, s := range l {
		if !slices.Contains(indices, i) {
			rest = append(rest, s)
		}
	}
	return rest
}

// upTo returns the numbers from 0 to n - 1.
func upTo(n int) []int {
	l := make([]int, n)
	for i := range l {
		l[i] = i
	}
	return l
}

// choices goes through all ascending lists of size numbers below n, in
// lexicographic order.
func choices(n, size int) iter.Seq[[]int] {
	return func(yield func([]int) bool) {
		var grow func(l []int, from int) bool
		grow = func(l []int, from int) bool {
			if len(l) == size {
				return yield(slices.Clone(l))
			}
			for i := from; i < n; i++ {
				if !grow(append(l, i), i+1) {
					return false
				}
			}
			return true
		}
		grow(nil, 0)
	}
}

// first returns the first item that is good, of the first sequence that has
// one.
func first[T any](good func(T) bool, sequences ...iter.Seq[T]) (found T, ok bool) {
search:
	for _, items := range sequences {
		for item := range items {
			if good(item) {
				found, ok = item, true
				break search
			}
		}
	}
	return found, ok
}

// Sort returns the indices of the names of a list in the order of the names.
func Sort(l []string) ([]int, api.Errno) {
	names, err := readList(l)
	if err != nil {
		return nil, codeOf(err)
	}
	indices := upTo(len(names))
	slices.SortStableFunc(indices, func(i, j int) int { return names[i].compare(names[j]) })
	return indices, api.OK
}

// Place returns how many names of a list in order come before a name.
func Place(l []string, name string) (int, api.Errno) {
	names, err := readList(l)
	if err != nil {
		return 0, codeOf(err)
	}
	s, err := read(name)
	if err != nil {
		return 0, codeOf(err)
	}
	if !inOrder(names) {
		return 0, api.ErrOrder
	}
	place, _ := slices.BinarySearchFunc(names, s, spelling.compare)
	return place, api.OK
}

// Wrong returns the indices of the fewest names without which the others of a
// list are in order.
func Wrong(l []string) ([]int, api.Errno) {
	names, err := readList(l)
	if err != nil {
		return nil, codeOf(err)
	}
	var all []iter.Seq[[]int]
	for size := range len(names) + 1 {
		all = append(all, choices(len(names), size))
	}
	wrong, _ := first(func(indices []int) bool { return inOrder(without(names, indices)) }, all...)
	return wrong, api.OK
}
