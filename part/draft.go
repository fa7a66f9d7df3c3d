package part

import (
	"maps"
	"slices"

	"wayzgoose/api"
)

// mostLines is how many lines old parts have at most, all together.
const mostLines = parts * api.MaxPart

// draft is valid old parts at work.
type draft struct {
	*book
	old [parts][]api.Person
	// lines are the people of all mendings, each as often as the part has them
	// that has them most often, in the order of the part of names.
	lines   []api.Person
	certain set          // the lines that each mending has
	orders  [parts][]int // the numbers of the lines that stand in each part, in its order
}

// beginOld returns old parts at work, or panics with the first error of the
// volume or of them.
func beginOld(v api.Volume, p api.Parts) *draft {
	d := &draft{book: begin(v)}
	d.old = [parts][]api.Person{api.PartStreet: p.ByStreet, api.PartName: p.ByName, api.PartTrade: p.ByTrade}
	for part, l := range d.layouts() {
		d.mustBeLines(l, d.old[part])
	}
	d.collect()
	return d
}

// mustBeLines panics with the first error of the lines of a part.
func (d *draft) mustBeLines(l layout, lines []api.Person) {
	if len(lines) > api.MaxPart {
		panic(api.ErrFull)
	}
	for _, x := range lines {
		must(d.checkPerson(x))
		if !l.holds(x) {
			panic(api.ErrKind)
		}
	}
}

// collect finds the lines of all mendings, and their orders.
func (d *draft) collect() {
	counts := d.counts()
	for _, x := range slices.SortedFunc(maps.Keys(counts), byName{}.compare) {
		low, high := d.bounds(x, counts[x])
		for n := range high {
			if n < low {
				d.certain = d.certain.with(len(d.lines))
			}
			d.lines = append(d.lines, x)
		}
	}
	for part, l := range d.layouts() {
		d.orders[part] = d.orderOf(l)
	}
}

// counts returns how often each part has each line.
func (d *draft) counts() map[api.Person][parts]int {
	counts := map[api.Person][parts]int{}
	for part, lines := range d.old {
		for _, x := range lines {
			n := counts[x]
			n[part]++
			counts[x] = n
		}
	}
	return counts
}

// bounds returns how often that one of the parts of a person has them that has
// them least often, and that one that has them most often.
func (d *draft) bounds(p api.Person, counts [parts]int) (low, high int) {
	var its []int
	for part, l := range d.layouts() {
		if l.holds(p) {
			its = append(its, counts[part])
		}
	}
	return slices.Min(its), slices.Max(its)
}

// orderOf returns the numbers of the lines that stand in a part, in its order.
func (d *draft) orderOf(l layout) []int {
	var numbers []int
	for n, x := range d.lines {
		if l.holds(x) {
			numbers = append(numbers, n)
		}
	}
	slices.SortStableFunc(numbers, func(m, n int) int { return l.compare(d.lines[m], d.lines[n]) })
	return numbers
}

// moved returns the fewest lines without which the others are in the order of a
// part.
func moved(l layout, lines []api.Person) set {
	inOrder := func(s set) bool {
		var rest []api.Person
		for n, x := range lines {
			if !s.has(n) {
				rest = append(rest, x)
			}
		}
		return slices.IsSortedFunc(rest, l.compare)
	}
	return least(sets(len(lines), inOrder), set.compare)
}

// CheckParts returns the first error of a volume or of old parts, otherwise OK.
func CheckParts(v api.Volume, p api.Parts) api.Errno {
	_, e := caught(func() *draft { return beginOld(v, p) })
	return e
}

// Moved returns the numbers of the fewest lines of a part without which the
// others are in its order.
func Moved(v api.Volume, p api.Parts, part int) ([]int, api.Errno) {
	return caught(func() []int {
		d := beginOld(v, p)
		l := d.layout(part)
		return moved(l, d.old[part]).list()
	})
}
