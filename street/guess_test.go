package street_test

import (
	"cmp"
	"slices"
	"testing"

	"wayzgoose/api"
	"wayzgoose/street"
)

// TestGuess is about P1.6; "!" stands for ErrNone.
func TestGuess(t *testing.T) {
	for _, c := range []struct{ p, q, changes string }{
		{exampleP, "1 2 3 4 6|1 2|", "swap 0"},
		{exampleP, exampleP, ""},
		{"", "", ""},
		{exampleP, "1 2 4 5 7 8||", "join 1 0, fell 0/3"},
		{exampleP, "9|9|9", "!"},
		{"1|", "1 1a|", "divide 0/1"},
		{"1|2", "|2 3", "join 0 1"},
		{"1 2|", "|1 2", "join 0 1"},
		{"3 4", "", "fell 0/3, fell 0/4"},
		{"3 4", "1 2", "count 0"},
		{"3", "2", "swap 0, count 0"},
		{"1 3", "2 4", "swap 0"},
		{"1 2", "3 4", "!"},
		{"1 2 3", "", "!"},
		{"1", "1|", "!"},
		{"1|", "1", "!"},
		{"5|7", "6|8", "swap 0, swap 1"},
		{"1 2 3|", "1|1 2", "!"},
		{"1 2|1|1", "1 2 3|1|", "join 2 0"},
		{"1|1|", "1 2|", "!"},
		{"2 2a", "2 2a 2b 2c", "divide 0/2, divide 0/2"},
		{"2|2", "2 2a|2 2a", "divide 0/2, divide 1/2"},
		{"1 2 3", "1 3 3a", "divide 0/3, fell 0/2"},
		{"2 5", "2a 5", "divide 0/2, fell 0/2"},
		{"||1", "1||", "join 2 0"},
	} {
		l, e := street.Guess(town(c.p), town(c.q))
		want := api.OK
		due := []api.Change(nil)
		if c.changes == "!" {
			want = api.ErrNone
		} else {
			due = changes(c.changes)
		}
		if e != want || !slices.Equal(l, due) {
			t.Errorf("%s into %s: %v, error %d", c.p, c.q, l, e)
		}
	}
}

// TestGuessErrors is about P1.6: the error of p, that of q, and only then the
// number of streets.
func TestGuessErrors(t *testing.T) {
	for _, c := range []struct {
		p, q string
		want api.Errno
	}{
		{"2 1", "41", api.ErrOrder},
		{"41", "2 1", api.ErrRange},
		{"1", "2 1", api.ErrOrder},
		{"1", "2 1|", api.ErrOrder},
		{"1", "|||", api.ErrFull},
		{"1", "1||", api.ErrNone},
	} {
		l, e := street.Guess(town(c.p), town(c.q))
		if e != c.want || len(l) > 0 {
			t.Errorf("%s into %s: %v, error %d, want %d", c.p, c.q, l, e, c.want)
		}
	}
	if _, e := street.Guess(town("1"), api.Plan{}); e != api.ErrShort {
		t.Errorf("into no street: error %d", e)
	}
}

// compareChanges is the order of changes that P1.6 names.
func compareChanges(a, b api.Change) int {
	return cmp.Or(cmp.Compare(a.Kind, b.Kind), cmp.Compare(a.Street, b.Street), cmp.Compare(a.Other, b.Other), comparePlates(a.From, b.From))
}

// allChanges returns all changes of the kinds from turn to fell that can be
// made in a plan, in no order.
func allChanges(p api.Plan) []api.Change {
	var l []api.Change
	for _, kind := range []int{6, 5, 4, 3, 2, 1} {
		for row := range p.Streets {
			c := api.Change{Kind: kind, Street: row}
			l = append(l, c)
			for other := range p.Streets {
				l = append(l, api.Change{Kind: kind, Street: row, Other: other})
			}
			for _, x := range p.Streets[row] {
				l = append(l, api.Change{Kind: kind, Street: row, From: x})
			}
		}
	}
	return slices.DeleteFunc(l, func(c api.Change) bool {
		_, e := street.After(p, c)
		return e != api.OK
	})
}

// bestGuess tries all lists of changes; false if none makes p into q.
func bestGuess(p, q api.Plan) ([]api.Change, bool) {
	var best []api.Change
	found := samePlan(p, q)
	try := func(l ...api.Change) {
		less := len(l) < len(best) || len(l) == len(best) && slices.CompareFunc(l, best, compareChanges) < 0
		if !found || less {
			found, best = true, l
		}
	}
	for _, c := range allChanges(p) {
		first, _ := street.After(p, c)
		if samePlan(first, q) {
			try(c)
		}
		for _, d := range allChanges(first) {
			if second, _ := street.After(first, d); samePlan(second, q) {
				try(c, d)
			}
		}
	}
	return best, found
}

// TestGuessed is P1.17: the changes make one plan into the other one, and no
// fewer do, nor as many that come before: all lists are tried.
func TestGuessed(t *testing.T) {
	d := die{state: 17}
	sizes := map[int]int{}
	for range 300 {
		p := d.plan(3)
		q := p
		for range d.throw(5) {
			if next, e := street.After(q, d.change(q)); e == api.OK {
				q = next
			}
		}
		best, found := bestGuess(p, q)
		l, e := street.Guess(p, q)
		if !found {
			sizes[-1]++
			mustBe(t, "no guess", e, api.ErrNone)
			continue
		}
		sizes[len(best)]++
		if e != api.OK || !slices.Equal(l, best) {
			t.Fatalf("%v into %v: %v, error %d, want %v", p, q, l, e, best)
		}
		now := p
		for _, c := range l {
			now, e = street.After(now, c)
			mustBe(t, "a change of a guess", e, api.OK)
		}
		if !samePlan(now, q) {
			t.Fatalf("%v into %v: %v makes %v", p, q, l, now)
		}
	}
	for n := -1; n <= api.MaxGuess; n++ {
		if sizes[n] < 10 {
			t.Errorf("only %d guesses of %d changes", sizes[n], n)
		}
	}
}
