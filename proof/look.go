package proof

import (
	"slices"

	"wayzgoose/api"
)

// flawOf returns the first flaw of a proof; older are the pages of all years
// before the last one.
func flawOf(older [][]string, right, proof []string) api.Flaw {
	marks := pair{right, proof}.diff()
	if len(marks) == 0 {
		return api.Flaw{}
	}
	m := marks[0]
	switch {
	case m.Kind == takeOut:
		return api.Flaw{Kind: api.FlawLost, At: m.At}
	case !slices.Contains(right, m.Text) && lastWith(older, m.Text) != none:
		return api.Flaw{Kind: api.FlawBack, At: m.At}
	}
	return api.Flaw{Kind: api.FlawOther, At: m.At}
}

// Look returns the first flaw of a proof of the last year's page with marks.
func Look(years [][]string, l []api.Mark, proof []string) (api.Flaw, api.Errno) {
	if e := checkYears(years); e != api.OK {
		return api.Flaw{}, e
	}
	if len(years) == 0 {
		return api.Flaw{}, api.ErrShort
	}
	last := len(years) - 1
	right, e := Apply(years[last], l)
	if e != api.OK {
		return api.Flaw{}, e
	}
	if e := Check(proof); e != api.OK {
		return api.Flaw{}, e
	}
	return flawOf(years[:last], right, proof), api.OK
}
