package street

import (
	"iter"
	"slices"

	"wayzgoose/api"
)

// Guess returns the fewest changes that make one plan into another one.
func Guess(p, q api.Plan) ([]api.Change, api.Errno) {
	if e := Check(p); e != api.OK {
		return nil, e
	}
	if e := Check(q); e != api.OK {
		return nil, e
	}
	if len(p.Streets) != len(q.Streets) {
		return nil, api.ErrNone
	}
	for n := range api.MaxGuess + 1 {
		if l, ok := reach(p, q, n); ok {
			return l, api.OK
		}
	}
	return nil, api.ErrNone
}

// reach returns the first list of n changes that make p into q.
func reach(p, q api.Plan, n int) ([]api.Change, bool) {
	if n == 0 {
		return nil, samePlan(p, q)
	}
	for c := range changes(p) {
		m, e := follow(p, c)
		if e != api.OK {
			continue
		}
		if l, ok := reach(m.plan(p), q, n-1); ok {
			return slices.Insert(l, 0, c), true
		}
	}
	return nil, false
}

// changes goes through the changes that Guess knows, in their order, and some
// more that can't be made.
func changes(p api.Plan) iter.Seq[api.Change] {
	return func(yield func(api.Change) bool) {
		for kind := api.ChangeTurn; kind <= api.ChangeFell; kind++ {
			for street, row := range p.Streets {
				for _, c := range variants(api.Change{Kind: kind, Street: street}, row, len(p.Streets)) {
					if !yield(c) {
						return
					}
				}
			}
		}
	}
}

// variants returns the changes of one kind in one street, in their order.
func variants(c api.Change, row []api.Plate, streets int) []api.Change {
	var l []api.Change
	switch c.Kind {
	case api.ChangeJoin:
		for other := range streets {
			c.Other = other
			l = append(l, c)
		}
	case api.ChangeDivide, api.ChangeFell:
		for _, x := range row {
			c.From = x
			l = append(l, c)
		}
	default:
		l = append(l, c)
	}
	return l
}
