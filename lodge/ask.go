package lodge

import (
	"cmp"
	"maps"
	"slices"

	"wayzgoose/api"
)

// look is what is looked for in each truth: something that may be there, and
// its number if it is.
type look struct {
	*ledger
	at func(t world) (number int, found bool)
}

// numbers returns all different numbers that are found, ascending.
func (k look) numbers() []int {
	met := map[int]bool{}
	for t := range k.truths() {
		if n, ok := k.at(t); ok {
			met[n] = true
		}
	}
	return slices.Sorted(maps.Keys(met))
}

// bounds returns the bounds of the numbers that are found.
func (k look) bounds() bounds[int] {
	var b bounds[int]
	for t := range k.truths() {
		if n, ok := k.at(t); ok {
			b.meet(n)
		}
	}
	return b
}

// verdict returns whether it is found; there is a truth.
func (k look) verdict() int {
	verdict := 0
search:
	for t := range k.truths() {
		_, found := k.at(t)
		switch {
		case found && verdict == api.Out, !found && verdict == api.Sure:
			verdict = api.Open
			break search
		case found:
			verdict = api.Sure
		default:
			verdict = api.Out
		}
	}
	return verdict
}

// bounds is the least and the greatest of the values that were met, if some
// were.
type bounds[T cmp.Ordered] struct {
	low, high T
	some      bool
}

func (b *bounds[T]) meet(x T) {
	if !b.some {
		*b = bounds[T]{x, x, true}
	}
	b.low, b.high = min(b.low, x), max(b.high, x)
}

// Where returns all homes at which a person can be on a day.
func Where(l api.Lodging, person, day int) ([]int, api.Errno) {
	g, e := enter(l, named{people: []int{person}, days: []int{day}})
	if e != api.OK {
		return nil, e
	}
	where := look{g, func(t world) (int, bool) { return t.people[person].life[day], true }}
	return where.numbers(), api.OK
}

// Who returns all people who can be at a home on a day.
func Who(l api.Lodging, home, day int) ([]int, api.Errno) {
	g, e := enter(l, named{homes: []int{home}, days: []int{day}})
	if e != api.OK {
		return nil, e
	}
	is := func(o option) bool { return o.life[day] == home }
	who := look{g, func(t world) (int, bool) { return slices.IndexFunc(t.people[:len(g.People)], is), true }}
	return who.numbers(), api.OK
}

// Verdict returns whether a person is at a home, or at none, on a day.
func Verdict(l api.Lodging, person, home, day int) (int, api.Errno) {
	n := named{people: []int{person}, days: []int{day}}
	if home != none {
		n.homes = []int{home}
	}
	g, e := enter(l, n)
	if e != api.OK {
		return 0, e
	}
	is := look{g, func(t world) (int, bool) { return day, t.people[person].life[day] == home }}
	return is.verdict(), api.OK
}

// Moves returns the least and the greatest number of moves of a person.
func Moves(l api.Lodging, person int) (api.Span, api.Errno) {
	g, e := enter(l, named{people: []int{person}})
	if e != api.OK {
		return api.Span{}, e
	}
	moves := look{g, func(t world) (int, bool) { return t.people[person].moves(g.Days), true }}
	b := moves.bounds()
	return api.Span{Low: b.low, High: b.high}, api.OK
}

// Since returns the least and the greatest first day of a person at a home.
func Since(l api.Lodging, person, home int) (api.Span, api.Errno) {
	g, e := enter(l, named{people: []int{person}, homes: []int{home}})
	if e != api.OK {
		return api.Span{}, e
	}
	since := look{g, func(t world) (int, bool) {
		day := slices.Index(t.people[person].life[:], home)
		return day, day != none
	}}
	b := since.bounds()
	if !b.some {
		return api.Span{}, api.ErrNone
	}
	return api.Span{Low: b.low, High: b.high}, api.OK
}

// Follows returns whether the person second is at a home on the day after one
// on which the person first is there.
func Follows(l api.Lodging, home, first, second int) (int, api.Errno) {
	g, e := enter(l, named{people: []int{first, second}, homes: []int{home}})
	if e != api.OK {
		return 0, e
	}
	follows := look{g, func(t world) (int, bool) {
		one, other := t.people[first].life, t.people[second].life
		for day := range g.Days - 1 {
			if one[day] == home && other[day+1] == home {
				return day, true
			}
		}
		return none, false
	}}
	return follows.verdict(), api.OK
}

// census counts the truths by where each person is on each day; none is the
// place 0 of a row, the home 0 the place 1.
type census [api.MaxPeople][api.MaxDays][api.MaxCells + 1]int

func (c *census) add(t world) {
	for person, o := range t.people {
		for day, home := range o.life {
			c[person][day][home+1]++
		}
	}
}

// Ask returns the person and the day that should be asked for, and how many
// truths are left at most after the answer.
func Ask(l api.Lodging) (person, day, left int, e api.Errno) {
	g, e := open(l)
	if e != api.OK {
		return 0, 0, 0, e
	}
	truths := 0
	var c census
	for t := range g.truths() {
		truths++
		c.add(t)
	}
	left = truths
	for i := range g.People {
		for j := range g.Days {
			if most := slices.Max(c[i][j][:]); most < left {
				person, day, left = i, j, most
			}
		}
	}
	if left == truths {
		return 0, 0, 0, api.ErrNone
	}
	return person, day, left, api.OK
}
