// Package street is layer 1: it follows houses through the plans of a town
// (shared/doc/01-street.md).
package street

import (
	"cmp"
	"slices"

	"wayzgoose/api"
)

// plate is an api.Plate with methods.
type plate api.Plate

func (x plate) odd() bool { return x.Number%2 == 1 }

func (x plate) even() bool { return x.Number%2 == 0 }

func (x plate) valid() bool {
	return x.Number >= 1 && x.Number <= api.MaxNumber && x.Letter >= 0 && x.Letter <= api.MaxLetter
}

func comparePlates(a, b api.Plate) int {
	return cmp.Or(cmp.Compare(a.Number, b.Number), cmp.Compare(a.Letter, b.Letter))
}

func comparePlaces(a, b api.Place) int {
	return cmp.Or(cmp.Compare(a.Street, b.Street), comparePlates(a.Plate, b.Plate))
}

// Check returns the first error of a plan, otherwise OK.
func Check(p api.Plan) api.Errno {
	if len(p.Streets) == 0 {
		return api.ErrShort
	}
	if len(p.Streets) > api.MaxTown {
		return api.ErrFull
	}
	for _, row := range p.Streets {
		if e := checkRow(row); e != api.OK {
			return e
		}
	}
	return api.OK
}

// checkRow returns the first error of the plates of a street.
func checkRow(row []api.Plate) api.Errno {
	if len(row) > api.MaxHouses {
		return api.ErrFull
	}
	for i, x := range row {
		if !plate(x).valid() {
			return api.ErrRange
		}
		if i > 0 && comparePlates(row[i-1], x) >= 0 {
			return api.ErrOrder
		}
	}
	return api.OK
}

// isStreet reports whether a plan has a street with this number.
func isStreet(p api.Plan, street int) bool { return street >= 0 && street < len(p.Streets) }

// isHouse reports whether a plan has this house.
func isHouse(p api.Plan, h api.Place) bool {
	return isStreet(p, h.Street) && slices.Contains(p.Streets[h.Street], h.Plate)
}

// houses returns the houses of a valid plan in their order.
func houses(p api.Plan) []api.Place {
	var l []api.Place
	for street, row := range p.Streets {
		for _, x := range row {
			l = append(l, api.Place{Street: street, Plate: x})
		}
	}
	return l
}

func samePlan(p, q api.Plan) bool {
	return slices.EqualFunc(p.Streets, q.Streets, slices.Equal[[]api.Plate])
}

// clonePlan returns a plan that shares no memory with p.
func clonePlan(p api.Plan) api.Plan {
	q := api.Plan{Streets: make([][]api.Plate, len(p.Streets))}
	for i, row := range p.Streets {
		q.Streets[i] = slices.Clone(row)
	}
	return q
}
