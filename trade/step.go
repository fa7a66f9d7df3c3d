package trade

import (
	"iter"
	"slices"

	"wayzgoose/api"
)

// reference leads from a heading to another one.
type reference struct{ from, to int }

// steps returns in how many steps each heading is found from a heading, with
// some references more; none if it is not.
func (l list) steps(head int, more ...reference) []int {
	steps := slices.Repeat([]int{none}, len(l.headings))
	steps[head] = 0
	waiting := make(chan int, len(l.headings))
	waiting <- head
	at := head
	look := func(to int) {
		if steps[to] == none {
			steps[to] = steps[at] + 1
			waiting <- to
		}
	}
	for len(waiting) > 0 {
		at = <-waiting
		for _, to := range l.headings[at].next() {
			look(to)
		}
		for _, r := range more {
			if r.from == at {
				look(r.to)
			}
		}
	}
	return steps
}

// hidden returns all trades that are not found from a heading in at most so
// many steps, with some references more.
func (l list) hidden(head, steps int, more ...reference) []int {
	var trades []int
	for i, n := range l.steps(head, more...) {
		if l.isTrade(i) && (n == none || n > steps) {
			trades = append(trades, i)
		}
	}
	return trades
}

// free returns all references that can be added, in lexicographic order.
func (l list) free() []reference {
	there := map[reference]bool{}
	for from, h := range l.headings {
		for _, to := range h.next() {
			there[reference{from, to}] = true
		}
	}
	var free []reference
	for from := range l.headings {
		for to := range l.headings {
			r := reference{from, to}
			if !l.isPointer(from) && from != to && !there[r] {
				free = append(free, r)
			}
		}
	}
	return free
}

// useful returns those of the references that can be added which may be among
// the fewest: the others are too far from the heading even if all are added, or
// lead back to it.
func (l list) useful(head, steps int) []reference {
	free := l.free()
	near := l.steps(head, free...)
	return slices.DeleteFunc(free, func(r reference) bool {
		return near[r.from] == none || near[r.from] >= steps || r.to == head
	})
}

// choices goes through all lists of n references out of a list, in their order.
func choices(from []reference, n int) iter.Seq[[]reference] {
	return func(yield func([]reference) bool) {
		var grow func(chosen, rest []reference) bool
		grow = func(chosen, rest []reference) bool {
			if len(chosen) == n {
				return yield(slices.Clone(chosen))
			}
			for i, r := range rest {
				if !grow(append(chosen, r), rest[i+1:]) {
					return false
				}
			}
			return true
		}
		grow(nil, from)
	}
}

// first returns the first item that is good, of the first sequence that has
// one.
func first[T any](good func(T) bool, sequences ...iter.Seq[T]) (found T, ok bool) {
search:
	for _, items := range sequences {
		for item := range items {
			if good(item) {
				found, ok = item, true
				break search
			}
		}
	}
	return found, ok
}

// Steps returns in how many steps each heading is found from a heading.
func Steps(t api.Trades, head int) ([]int, api.Errno) {
	l, e := beginHead(t, head)
	if e != api.OK {
		return nil, e
	}
	return l.steps(head), api.OK
}

// beginSteps is begin for a call with a heading and a number of steps.
func beginSteps(t api.Trades, head, steps int) (list, api.Errno) {
	l, e := beginHead(t, head)
	if e != api.OK {
		return list{}, e
	}
	if steps < 0 || steps > api.MaxHeads {
		return list{}, api.ErrRange
	}
	return l, api.OK
}

// Hidden returns all trades that are not found from a heading in at most so
// many steps.
func Hidden(t api.Trades, head, steps int) ([]int, api.Errno) {
	l, e := beginSteps(t, head, steps)
	if e != api.OK {
		return nil, e
	}
	return l.hidden(head, steps), api.OK
}

// Join returns the fewest references that have to be added so that no trade is
// hidden.
func Join(t api.Trades, head, steps int) ([][]int, api.Errno) {
	l, e := beginSteps(t, head, steps)
	if e != api.OK {
		return nil, e
	}
	joins := func(more []reference) bool { return len(l.hidden(head, steps, more...)) == 0 }
	useful := l.useful(head, steps)
	// No reference hides a trade, so if all together do not help none do.
	if !joins(useful) {
		return nil, api.ErrNone
	}
	var all []iter.Seq[[]reference]
	for n := range len(useful) + 1 {
		all = append(all, choices(useful, n))
	}
	fewest, _ := first(joins, all...)
	var pairs [][]int
	for _, r := range fewest {
		pairs = append(pairs, []int{r.from, r.to})
	}
	return pairs, api.OK
}
