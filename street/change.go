package street

import (
	"slices"

	"wayzgoose/api"
)

// course is what becomes of houses: each key becomes its places. A house that
// is no key stays where it is.
type course map[api.Place][]api.Place

// of returns what a house becomes.
func (m course) of(h api.Place) []api.Place {
	if l, named := m[h]; named {
		return l
	}
	return []api.Place{h}
}

// plan returns what becomes of a whole plan.
func (m course) plan(p api.Plan) api.Plan {
	next := api.Plan{Streets: make([][]api.Plate, len(p.Streets))}
	for _, h := range houses(p) {
		for _, to := range m.of(h) {
			next.Streets[to.Street] = append(next.Streets[to.Street], to.Plate)
		}
	}
	for _, row := range next.Streets {
		slices.SortFunc(row, comparePlates)
	}
	return next
}

// checkChange returns the first error of a change that does not depend on
// what its kind does.
func checkChange(p api.Plan, c api.Change) api.Errno {
	if !isKind(c.Kind) {
		return api.ErrKind
	}
	if !isStreet(p, c.Street) {
		return api.ErrNoSuch
	}
	if c.Kind == api.ChangeJoin || c.Kind == api.ChangeCourt {
		if !isStreet(p, c.Other) {
			return api.ErrNoSuch
		}
		if c.Other == c.Street {
			return api.ErrRepeated
		}
	}
	if c != named(c) {
		return api.ErrRange
	}
	return api.OK
}

func isKind(kind int) bool { return kind >= api.ChangeTurn && kind <= api.ChangeCourt }

// named returns a change with just the fields that its kind names.
func named(c api.Change) api.Change {
	n := api.Change{Kind: c.Kind, Street: c.Street}
	switch c.Kind {
	case api.ChangeJoin:
		n.Other = c.Other
	case api.ChangeDivide, api.ChangeFell:
		n.From = c.From
	case api.ChangeCourt:
		n = c
	}
	return n
}

// follow returns what a change makes of the houses of a valid plan, or the
// first error of the change.
func follow(p api.Plan, c api.Change) (course, api.Errno) {
	if e := checkChange(p, c); e != api.OK {
		return nil, e
	}
	return deedOf(c.Kind)(p, c)
}

// After returns the plan after a change.
func After(p api.Plan, c api.Change) (api.Plan, api.Errno) {
	if e := Check(p); e != api.OK {
		return api.Plan{}, e
	}
	m, e := follow(p, c)
	if e != api.OK {
		return api.Plan{}, e
	}
	return m.plan(p), api.OK
}

// Becomes returns all houses that a house becomes by a change.
func Becomes(p api.Plan, c api.Change, house api.Place) ([]api.Place, api.Errno) {
	if e := Check(p); e != api.OK {
		return nil, e
	}
	m, e := follow(p, c)
	if e != api.OK {
		return nil, e
	}
	if !isHouse(p, house) {
		return nil, api.ErrNoSuch
	}
	return gather(m.of(house)), api.OK
}

// Was returns the house that becomes a house by a change.
func Was(p api.Plan, c api.Change, house api.Place) (api.Place, api.Errno) {
	if e := Check(p); e != api.OK {
		return api.Place{}, e
	}
	m, e := follow(p, c)
	if e != api.OK {
		return api.Place{}, e
	}
	for _, before := range houses(p) {
		for _, after := range m.of(before) {
			if after == house {
				return before, api.OK
			}
		}
	}
	return api.Place{}, api.ErrNoSuch
}
