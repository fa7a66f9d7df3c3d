package street

import (
	"slices"

	"wayzgoose/api"
)

// deed is what a kind of change does in a valid plan, or the error because of
// which it can't be done there. Its course has no house that it does not name.
type deed func(api.Plan, api.Change) (course, api.Errno)

// The deeds in the order of their kinds, the first of which is ChangeTurn.
const (
	turnDeed = iota
	swapDeed
	countDeed
	joinDeed
	divideDeed
	fellDeed
	courtDeed
	deeds // how many there are
)

// deedOf returns the deed of one of the seven kinds.
func deedOf(kind int) deed {
	table := [deeds]deed{
		turnDeed:   turn,
		swapDeed:   swap,
		countDeed:  count,
		joinDeed:   join,
		divideDeed: divide,
		fellDeed:   fell,
		courtDeed:  court,
	}
	return table[kind-api.ChangeTurn]
}

// rename adds to a course that a house gets another place.
func (m course) rename(street int, from api.Plate, other int, to api.Plate) {
	m[api.Place{Street: street, Plate: from}] = []api.Place{{Street: other, Plate: to}}
}

// side returns the plates of one side of a street, in their order.
func side(row []api.Plate, here func(plate) bool) []api.Plate {
	return slices.DeleteFunc(slices.Clone(row), func(x api.Plate) bool { return !here(plate(x)) })
}

func turn(p api.Plan, c api.Change) (course, api.Errno) {
	m, row := course{}, p.Streets[c.Street]
	for _, l := range [][]api.Plate{side(row, plate.odd), side(row, plate.even)} {
		for i, x := range l {
			m.rename(c.Street, x, c.Street, l[len(l)-1-i])
		}
	}
	return m, api.OK
}

func swap(p api.Plan, c api.Change) (course, api.Errno) {
	m := course{}
	for _, x := range p.Streets[c.Street] {
		to := api.Plate{Number: x.Number - 1, Letter: x.Letter}
		if plate(x).odd() {
			to.Number = x.Number + 1
		}
		m.rename(c.Street, x, c.Street, to)
	}
	return m, api.OK
}

func count(p api.Plan, c api.Change) (course, api.Errno) {
	m, row := course{}, p.Streets[c.Street]
	for i, x := range side(row, plate.odd) {
		m.rename(c.Street, x, c.Street, api.Plate{Number: 2*i + 1})
	}
	for i, x := range side(row, plate.even) {
		m.rename(c.Street, x, c.Street, api.Plate{Number: 2*i + 2})
	}
	return m, api.OK
}

func join(p api.Plan, c api.Change) (course, api.Errno) {
	row, other := p.Streets[c.Street], p.Streets[c.Other]
	if len(row)+len(other) > api.MaxHouses {
		return nil, api.ErrFull
	}
	raise := 0
	if len(other) > 0 {
		last := plate(other[len(other)-1])
		raise = last.Number
		if last.odd() {
			raise++
		}
	}
	m := course{}
	for _, x := range row {
		to := api.Plate{Number: x.Number + raise, Letter: x.Letter}
		if to.Number > api.MaxNumber {
			return nil, api.ErrRange
		}
		m.rename(c.Street, x, c.Other, to)
	}
	return m, api.OK
}

func divide(p api.Plan, c api.Change) (course, api.Errno) {
	row := p.Streets[c.Street]
	if !slices.Contains(row, c.From) {
		return nil, api.ErrNoSuch
	}
	if len(row) == api.MaxHouses {
		return nil, api.ErrFull
	}
	for letter := 1; letter <= api.MaxLetter; letter++ {
		half := api.Plate{Number: c.From.Number, Letter: letter}
		if !slices.Contains(row, half) {
			whole := api.Place{Street: c.Street, Plate: c.From}
			return course{whole: {whole, {Street: c.Street, Plate: half}}}, api.OK
		}
	}
	return nil, api.ErrFull
}

func fell(p api.Plan, c api.Change) (course, api.Errno) {
	house := api.Place{Street: c.Street, Plate: c.From}
	if !isHouse(p, house) {
		return nil, api.ErrNoSuch
	}
	return course{house: nil}, api.OK
}

func court(p api.Plan, c api.Change) (course, api.Errno) {
	row := p.Streets[c.Street]
	first, last := slices.Index(row, c.From), slices.Index(row, c.To)
	if first < 0 || last < 0 {
		return nil, api.ErrNoSuch
	}
	if last < first {
		return nil, api.ErrOrder
	}
	if len(p.Streets[c.Other]) > 0 {
		return nil, api.ErrShut
	}
	m := course{}
	for i, x := range row[first : last+1] {
		m.rename(c.Street, x, c.Other, api.Plate{Number: i + 1})
	}
	return m, api.OK
}
