package street_test

import (
	"slices"
	"testing"

	"wayzgoose/api"
	"wayzgoose/street"
)

// TestAskAndSettle is about P1.5; "!" stands for ErrNone.
func TestAskAndSettle(t *testing.T) {
	for _, c := range []struct {
		s      api.Story
		ask    string
		left   int
		settle string
	}{
		{exampleS(""), "0/1", 1, "0/1"},
		{exampleS("0/3=0/3"), "!", 0, ""},
		{exampleS("0/3=0/5"), "!", 0, "!"},
		{story("", "", ""), "!", 0, ""},
		{story("|", "turn 0, swap 0", ""), "!", 0, ""},
		{story("1 2", "", ""), "!", 0, ""},
		{story("1 2", "turn 0, turn 0", ""), "!", 0, ""},
		{story("1 2|", "divide 0/1, fell 0/1", ""), "0/1", 1, "0/1"},
		{story("1 2|", "divide 0/2, fell 0/2", ""), "0/2", 1, "0/2"},
		{story("1 2 3 4", "fell 0/1, fell 0/3; fell 0/2, fell 0/4", ""), "0/1", 2, "0/1 0/2"},
		{story("1 2 3", "fell 0/1, fell 0/2, fell 0/3", ""), "0/1", 2, "0/1 0/2"},
		{story("1 2 3 5", "turn 0, fell 0/1, fell 0/2", ""), "0/1", 1, "0/1"},
		{story("1 2 3 4", "fell 0/1, fell 0/2, swap 0", ""), "0/1", 1, "0/1"},
		{story("1 2 3 4", "fell 0/3, turn 0, swap 0", ""), "0/1", 1, "0/1"},
		{story("1 2|1 2", "fell 0/1, fell 0/2; turn 1, swap 1", ""), "0/1", 2, "0/1 1/1"},
		{story("1 3 5|1", "fell 1/1, swap 1; fell 0/1, turn 0, count 0", ""), "0/1", 2, "0/1 1/1"},
		{story("2|2", "divide 0/2, divide 1/2", ""), "0/2", 1, "0/2"},
	} {
		h, left, e := street.Ask(c.s)
		want, due := api.ErrNone, api.Place{}
		if c.ask != "!" {
			want, due = api.OK, at(c.ask)
		}
		if e != want || h != due || left != c.left {
			t.Errorf("%v: ask %v, %d, error %d", c.s, h, left, e)
		}
		l, e := street.Settle(c.s)
		mustGo(t, "settle", l, e, c.settle)
	}
}

// sameAnswers reports whether a house has the same answer in two truths.
func sameAnswers(a, b past, h api.Place) bool { return slices.Equal(a.fate[h], b.fate[h]) }

// leftAfter returns the greatest number of truths with the same answer.
func leftAfter(all []past, h api.Place) int {
	most := 0
	for _, u := range all {
		n := 0
		for _, v := range all {
			if sameAnswers(u, v, h) {
				n++
			}
		}
		most = max(most, n)
	}
	return most
}

// TestAsked is P1.15: after the answer of the house of Ask at most as many
// truths are left as it says, and no other house is better.
func TestAsked(t *testing.T) {
	d := die{state: 15}
	found := 0
	for range 1200 {
		s := d.story(5)
		all := pasts(s)
		h, left, e := street.Ask(s)
		low, first := len(all), api.Place{}
		for _, x := range housesOf(s.First) {
			if n := leftAfter(all, x); n < low {
				low, first = n, x
			}
		}
		if low == len(all) {
			mustBe(t, "nothing to ask", e, api.ErrNone)
			continue
		}
		found++
		if e != api.OK || h != first || left != low {
			t.Fatalf("%v: ask %v, %d, error %d, want %v, %d", s, h, left, e, first, low)
		}
	}
	if found < 100 {
		t.Errorf("only %d stories with something to ask", found)
	}
}

// settles reports whether the houses settle the answers of all houses.
func settles(s api.Story, all []past, houses []api.Place) bool {
	for i, u := range all {
		for _, v := range all[:i] {
			same := func(h api.Place) bool { return sameAnswers(u, v, h) }
			other := func(h api.Place) bool { return !same(h) }
			if !slices.ContainsFunc(houses, other) && slices.ContainsFunc(housesOf(s.First), other) {
				return false
			}
		}
	}
	return true
}

// choices goes through all lists of n houses in lexicographic order.
func choices(l []api.Place, n int, chosen []api.Place, yield func([]api.Place) bool) bool {
	if n == 0 {
		return yield(chosen)
	}
	for i := range l {
		if !choices(l[i+1:], n-1, append(slices.Clone(chosen), l[i]), yield) {
			return false
		}
	}
	return true
}

// fewest returns the fewest houses that settle all: all lists are gone through.
func fewest(s api.Story, all []past) []api.Place {
	var best []api.Place
	for n := range len(housesOf(s.First)) + 1 {
		if !choices(housesOf(s.First), n, nil, func(l []api.Place) bool {
			best = l
			return !settles(s, all, l)
		}) {
			return best
		}
	}
	return nil
}

// TestSettled is P1.16.
func TestSettled(t *testing.T) {
	d := die{state: 16}
	sizes := map[int]int{}
	for range 1200 {
		s := d.story(4)
		checkSettle(t, s, sizes)
	}
	// Houses that are pulled down make longer lists.
	for range 300 {
		s := api.Story{First: d.plan(4)}
		all := housesOf(s.First)
		for range 3 * min(1, len(all)) {
			step := api.Step{}
			for range 1 + d.throw(3) {
				h := all[d.throw(len(all))]
				step.Ways = append(step.Ways, api.Change{Kind: api.ChangeFell - d.throw(2), Street: h.Street, From: h.Plate})
			}
			s.Steps = append(s.Steps, step)
		}
		checkSettle(t, s, sizes)
	}
	for n := range 5 {
		if sizes[n] == 0 {
			t.Errorf("no story with %d houses to settle", n)
		}
	}
}

func checkSettle(t *testing.T, s api.Story, sizes map[int]int) {
	t.Helper()
	all := pasts(s)
	l, e := street.Settle(s)
	if len(all) == 0 {
		mustBe(t, "nothing to settle", e, api.ErrNone)
		return
	}
	due := fewest(s, all)
	sizes[len(due)]++
	if e != api.OK || !slices.Equal(l, due) {
		t.Fatalf("%v: settle %v, error %d, want %v", s, l, e, due)
	}
}
