package part

import (
	"cmp"
	"iter"
	"maps"
	"slices"
	"sync"

	"wayzgoose/api"
)

// mending is lines that the three parts may have had, and its edits.
type mending struct {
	lines set
	edits int
}

// peopleOf returns the people of a mending in the order of the part of names.
func (d *draft) peopleOf(m mending) []api.Person {
	var l []api.Person
	for _, n := range m.lines.list() {
		l = append(l, d.lines[n])
	}
	return l
}

// mended returns the lines of a part with a mending.
func (d *draft) mended(part int, s set) []api.Person {
	var l []api.Person
	for _, n := range d.orders[part] {
		if s.has(n) {
			l = append(l, d.lines[n])
		}
	}
	return l
}

// edits returns the edits of all parts with a mending.
func (d *draft) edits(s set) int {
	n := 0
	for part, old := range d.old {
		n += editsOf(old, d.mended(part, s))
	}
	return n
}

// editsOf returns how many lines have to be inserted into a part, or removed
// from it, so that it becomes another one.
func editsOf(old, mended []api.Person) int {
	// kept is how many lines at most remain of the first i lines of the one that
	// become the first j lines of the other.
	var kept [api.MaxPart + 1][mostLines + 1]int
	for i, x := range old {
		for j, y := range mended {
			if x == y {
				kept[i+1][j+1] = kept[i][j] + 1
			} else {
				kept[i+1][j+1] = max(kept[i][j+1], kept[i+1][j])
			}
		}
	}
	return len(old) + len(mended) - 2*kept[len(old)][len(mended)]
}

// mendings goes through all mendings with so many people.
func (d *draft) mendings(size int) iter.Seq[mending] {
	good := func(s set) bool { return s.size() == size && s.hasAll(d.certain) }
	return func(yield func(mending) bool) {
		for s := range sets(len(d.lines), good) {
			if !yield(mending{s, d.edits(s)}) {
				return
			}
		}
	}
}

// compare compares two mendings: the better one is less.
func (d *draft) compare(a, b mending) int {
	if order := cmp.Or(cmp.Compare(a.edits, b.edits), cmp.Compare(b.lines.size(), a.lines.size())); order != 0 {
		return order
	}
	return slices.CompareFunc(d.peopleOf(a), d.peopleOf(b), byName{}.compare)
}

// tryAll returns a closed channel with the best mending of each size.
func (d *draft) tryAll() <-chan mending {
	fewest := d.certain.size()
	found := make(chan mending, len(d.lines)-fewest+1)
	var wait sync.WaitGroup
	for size := fewest; size <= len(d.lines); size++ {
		wait.Add(1)
		go func() {
			defer wait.Done()
			found <- least(d.mendings(size), d.compare)
		}()
	}
	wait.Wait()
	close(found)
	return found
}

// mend returns the best mending.
func (d *draft) mend() mending {
	found := d.tryAll()
	all := func(yield func(mending) bool) {
		for m := range found {
			if !yield(m) {
				return
			}
		}
	}
	return least(all, d.compare)
}

// losses returns what a part has lost, or has too often, if the list of people
// was a mending.
func (d *draft) losses(part int, m mending) []api.Loss {
	missing := map[api.Person]int{}
	for _, x := range d.mended(part, m.lines) {
		missing[x]++
	}
	for _, x := range d.old[part] {
		missing[x]--
	}
	var l []api.Loss
	for _, x := range slices.SortedFunc(maps.Keys(missing), d.layout(part).compare) {
		switch n := missing[x]; {
		case n > 0:
			l = append(l, api.Loss{Part: part, Line: x, Many: n, Lost: true})
		case n < 0:
			l = append(l, api.Loss{Part: part, Line: x, Many: -n})
		}
	}
	return l
}

// Mend returns the people of the best mending, and its edits.
func Mend(v api.Volume, p api.Parts) (people []api.Person, edits int, e api.Errno) {
	d, e := caught(func() *draft { return beginOld(v, p) })
	if e != api.OK {
		return nil, 0, e
	}
	best := d.mend()
	return d.peopleOf(best), best.edits, api.OK
}

// Losses returns which people each part has lost, or has too often.
func Losses(v api.Volume, p api.Parts) ([]api.Loss, api.Errno) {
	return caught(func() []api.Loss {
		d := beginOld(v, p)
		best := d.mend()
		var l []api.Loss
		for part := range parts {
			l = append(l, d.losses(part, best)...)
		}
		return l
	})
}

// Same reports whether three parts have just the same people in their orders.
func Same(v api.Volume, p api.Parts) (bool, api.Errno) {
	return caught(func() bool { return beginOld(v, p).mend().edits == 0 })
}
