package street_test

import (
	"testing"

	"wayzgoose/api"
	"wayzgoose/street"
)

// TestCheck is about P1.1: the errors of a plan, in their order.
func TestCheck(t *testing.T) {
	low := api.Plan{Streets: [][]api.Plate{{{Number: 1, Letter: -1}}}}
	minus := api.Plan{Streets: [][]api.Plate{{{Number: -1}}}}
	for _, c := range []struct {
		name string
		p    api.Plan
		want api.Errno
	}{
		{"the example", town(exampleP), api.OK},
		{"letters", town("1 1a 1b 1c 1d 2|2d"), api.OK},
		{"one street without plates", town(""), api.OK},
		{"three streets without plates", town("||"), api.OK},
		{"the least and the greatest plate", town("1 40d"), api.OK},
		{"as many houses as may be", town("1 2 3 4 5 6 7 8|1 2 3 4 5 6 7 8|1 2 3 4 5 6 7 8"), api.OK},
		{"a letter without the plate before it", town("2b"), api.OK},
		{"the same plate in two streets", town("2a|2a"), api.OK},
		{"no street", api.Plan{}, api.ErrShort},
		{"four streets", town("|||"), api.ErrFull},
		{"four streets, a bad plate", town("41|||"), api.ErrFull},
		{"nine houses", town("1 2 3 4 5 6 7 8 9"), api.ErrFull},
		{"nine houses, a bad plate first", town("0 2 3 4 5 6 7 8 9"), api.ErrFull},
		{"the number 0", town("0"), api.ErrRange},
		{"the number 41", town("41"), api.ErrRange},
		{"the number -1", minus, api.ErrRange},
		{"the letter 5", town("1e"), api.ErrRange},
		{"the letter -1", low, api.ErrRange},
		{"a number that falls", town("2 1"), api.ErrOrder},
		{"a plate that stands twice", town("2 2"), api.ErrOrder},
		{"a letter that falls", town("2b 2a"), api.ErrOrder},
		{"a letter before none", town("2a 2"), api.ErrOrder},
		{"a plate that is bad and too early", town("2 0"), api.ErrRange},
		{"order first, range later in a street", town("2 1 41"), api.ErrOrder},
		{"range first, order later in a street", town("41 2 1"), api.ErrRange},
		{"order in the first street, range in the next", town("2 1|41"), api.ErrOrder},
		{"range in the first street, full in the next", town("41|1 2 3 4 5 6 7 8 9"), api.ErrRange},
		{"the error in the last street", town("1||2 2"), api.ErrOrder},
	} {
		mustBe(t, c.name, street.Check(c.p), c.want)
	}
}

// TestPlanErrors is about P1.1 to P1.7: each function that takes a plan
// returns its error before any other one.
func TestPlanErrors(t *testing.T) {
	bad, nowhere := api.Change{Kind: 9, Street: 9}, at("9/9")
	for text, want := range map[string]api.Errno{"|||": api.ErrFull, "1e": api.ErrRange, "2 1": api.ErrOrder} {
		p := town(text)
		broken := api.Story{First: p, Steps: make([]api.Step, 9), Facts: make([]api.Fact, 9)}
		_, after := street.After(p, bad)
		_, becomes := street.Becomes(p, bad, nowhere)
		_, was := street.Was(p, bad, nowhere)
		_, truths := street.Truths(broken)
		_, ends := street.Ends(broken)
		_, where := street.Where(broken, nowhere)
		_, whence := street.Whence(broken, nowhere)
		_, verdict := street.Verdict(broken, nowhere, nowhere)
		_, lost := street.Lost(broken)
		_, _, ask := street.Ask(broken)
		_, settle := street.Settle(broken)
		_, guess := street.Guess(p, api.Plan{})
		_, other := street.Guess(town("1"), p)
		_, write := street.Write(p)
		for i, e := range []api.Errno{after, becomes, was, truths, ends, where, whence, verdict, lost, ask, settle, guess, other, write} {
			if e != want {
				t.Errorf("%q, function %d: error %d, want %d", text, i, e, want)
			}
		}
	}
}
