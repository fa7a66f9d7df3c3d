package street_test

import (
	"slices"
	"testing"

	"wayzgoose/api"
	"wayzgoose/street"
)

// TestAfter is about P1.1: the plan after a change, and what each kind does.
func TestAfter(t *testing.T) {
	for _, c := range []struct{ before, change, after string }{
		{exampleP, "turn 0", exampleP},
		{"1 3 4", "turn 0", "1 3 4"},
		{exampleP, "swap 0", "1 2 3 4 6|1 2|"},
		{exampleP, "swap 1", "1 2 3 4 5|1 2|"},
		{"1 2 2a 5", "swap 0", "1 1a 2 6"},
		{"39 39a 40", "swap 0", "39 40 40a"},
		{"2d 7", "swap 0", "1d 8"},
		{"", "swap 0", ""},
		{"1 2 2a 5", "count 0", "1 2 3 4"},
		{"3 3a 9 12 40d", "count 0", "1 2 3 4 5"},
		{"5|2 4 6 8 10 12 14 16", "count 1", "5|2 4 6 8 10 12 14 16"},
		{"1 3 3a 5 7 9 11 13", "count 0", "1 3 5 7 9 11 13 15"},
		{exampleP, "join 1 0", "1 2 3 4 5 7 8||"},
		{exampleP, "join 0 1", "|1 2 3 4 5 6 7|"},
		{exampleP, "join 0 2", "|1 2|1 2 3 4 5"},
		{exampleP, "join 2 0", exampleP},
		{"||", "join 2 0", "||"},
		{"3 3a|2b 5", "join 1 0", "3 3a 6b 9|"},
		{"4a|2b 5", "join 1 0", "4a 6b 9|"},
		{"30|10", "join 1 0", "30 40|"},
		{"29|10", "join 1 0", "29 40|"},
		{"1 2 3 4|1 2 3 4", "join 0 1", "|1 2 3 4 5 6 7 8"},
		{exampleP, "divide 0/2", "1 2 2a 3 4 5|1 2|"},
		{"2 2a", "divide 0/2", "2 2a 2b"},
		{"2 2b", "divide 0/2b", "2 2a 2b"},
		{"2 2a 2b 2d", "divide 0/2a", "2 2a 2b 2c 2d"},
		{"2 2a 2b 2c", "divide 0/2", "2 2a 2b 2c 2d"},
		{"2c|2 2a", "divide 0/2c", "2a 2c|2 2a"},
		{"1 2 3 4 5 6 7", "divide 0/7", "1 2 3 4 5 6 7 7a"},
		{exampleP, "fell 0/3", "1 2 4 5|1 2|"},
		{"3", "fell 0/3", ""},
		{"3 3a|3a", "fell 0/3a", "3|3a"},
		{exampleP, "court 0 2 2 4", "1 5|1 2|1 2 3"},
		{exampleP, "court 0 2 3 3", "1 2 4 5|1 2|1"},
		{exampleP, "court 0 2 1 5", "|1 2|1 2 3 4 5"},
		{"1 2a 2c 9 12||7", "court 0 1 2a 9", "1 12|1 2 3|7"},
	} {
		p, e := street.After(town(c.before), change(c.change))
		if e != api.OK || !samePlan(p, town(c.after)) {
			t.Errorf("%s of %s: %v, error %d", c.change, c.before, p, e)
		}
	}
}

// TestChangeErrors is about P1.1 and P1.2: the errors of a change, in their
// order, returned by After, Becomes and Was.
func TestChangeErrors(t *testing.T) {
	eight := "1 2 3 4 5 6 7 8"
	for _, c := range []struct {
		before, change string
		want           api.Errno
	}{
		{exampleP, "turn 3", api.ErrNoSuch},
		{exampleP, "turn -1", api.ErrNoSuch},
		{exampleP, "swap 3", api.ErrNoSuch},
		{exampleP, "count 3", api.ErrNoSuch},
		{exampleP, "join 3 0", api.ErrNoSuch},
		{exampleP, "join 0 3", api.ErrNoSuch},
		{exampleP, "join 0 -1", api.ErrNoSuch},
		{exampleP, "join 3 3", api.ErrNoSuch},
		{exampleP, "join 0 0", api.ErrRepeated},
		{"1 2 3 4|" + eight, "join 1 0", api.ErrFull},
		{"40|" + eight, "join 0 1", api.ErrFull},
		{"1 2 3 40|1 2 3 4 5", "join 1 0", api.ErrFull},
		{"40|1", "join 1 0", api.ErrRange},
		{"39|1", "join 1 0", api.ErrRange},
		{"30|1 11", "join 1 0", api.ErrRange},
		{exampleP, "divide 3/1", api.ErrNoSuch},
		{exampleP, "divide 0/6", api.ErrNoSuch},
		{exampleP, "divide 0/2a", api.ErrNoSuch},
		{exampleP, "divide 2/1", api.ErrNoSuch},
		{eight, "divide 0/9", api.ErrNoSuch},
		{eight, "divide 0/8", api.ErrFull},
		{"2 2a 2b 2c 2d", "divide 0/2", api.ErrFull},
		{"2a 2b 2c 2d", "divide 0/2d", api.ErrFull},
		{exampleP, "fell 3/1", api.ErrNoSuch},
		{exampleP, "fell 0/6", api.ErrNoSuch},
		{exampleP, "fell 0/1a", api.ErrNoSuch},
		{exampleP, "fell 2/1", api.ErrNoSuch},
		{exampleP, "court 3 0 1 2", api.ErrNoSuch},
		{exampleP, "court 0 3 1 2", api.ErrNoSuch},
		{exampleP, "court 0 -1 1 2", api.ErrNoSuch},
		{exampleP, "court 0 0 1 2", api.ErrRepeated},
		{exampleP, "court 0 0 9 8", api.ErrRepeated},
		{exampleP, "court 0 1 6 5", api.ErrNoSuch},
		{exampleP, "court 0 1 2 6", api.ErrNoSuch},
		{exampleP, "court 0 1 4 2", api.ErrOrder},
		{exampleP, "court 0 2 4 2", api.ErrOrder},
		{"2 2a|", "court 0 1 2a 2", api.ErrOrder},
		{exampleP, "court 0 1 2 4", api.ErrShut},
	} {
		refused(t, c.change+" of "+c.before, town(c.before), change(c.change), c.want)
	}
	for _, kind := range []int{0, 8, -1, 1 << 40} {
		refused(t, "a kind", town(exampleP), api.Change{Kind: kind, Street: 9, Other: 9}, api.ErrKind)
	}
}

// refused fails unless a change is refused with an error by all functions that
// take a change.
func refused(t *testing.T, what string, p api.Plan, c api.Change, want api.Errno) {
	t.Helper()
	q, after := street.After(p, c)
	l, becomes := street.Becomes(p, c, at("9/9"))
	h, was := street.Was(p, c, at("9/9"))
	if after != want || becomes != want || was != want {
		t.Errorf("%s: errors %d %d %d, want %d", what, after, becomes, was, want)
	}
	if len(q.Streets) > 0 || len(l) > 0 || h != (api.Place{}) {
		t.Errorf("%s: results beside an error: %v %v %v", what, q, l, h)
	}
}

// TestUnnamedFields is about P1.1: a field that a kind does not name is 0.
// This comes after the errors of streets and before those of the kind.
func TestUnnamedFields(t *testing.T) {
	p := town("1 2|1 2|")
	fields := []func(*api.Change){
		func(c *api.Change) { c.Other = 1 },
		func(c *api.Change) { c.Other = -1 },
		func(c *api.Change) { c.From.Number = 1 },
		func(c *api.Change) { c.From.Letter = 1 },
		func(c *api.Change) { c.To.Number = 1 },
		func(c *api.Change) { c.To.Letter = -1 },
	}
	for text, unnamed := range map[string][]int{
		"turn 0": {0, 1, 2, 3, 4, 5}, "swap 0": {0, 1, 2, 3, 4, 5}, "count 0": {0, 1, 2, 3, 4, 5},
		"join 0 1": {2, 3, 4, 5}, "divide 0/1": {0, 1, 4, 5}, "fell 0/1": {0, 1, 4, 5},
		"divide 0/9": {0, 1, 4, 5}, "fell 0/9": {0, 1, 4, 5},
	} {
		for _, i := range unnamed {
			c := change(text)
			fields[i](&c)
			refused(t, text, p, c, api.ErrRange)
			c.Street = 3
			refused(t, text+" of no street", p, c, api.ErrNoSuch)
		}
	}
	both := change("join 0 0")
	both.To.Number = 1
	refused(t, "join 0 0 with a plate", p, both, api.ErrRepeated)
	both.Other = 3
	refused(t, "join 0 3 with a plate", p, both, api.ErrNoSuch)
}

// TestBecomesAndWas is about P1.2; an empty text stands for no house, and "-"
// for the error ErrNoSuch.
func TestBecomesAndWas(t *testing.T) {
	for _, c := range []struct{ before, change, house, becomes, was string }{
		{exampleP, "turn 0", "0/1", "0/5", "0/5"},
		{exampleP, "turn 0", "0/2", "0/4", "0/4"},
		{exampleP, "turn 0", "0/3", "0/3", "0/3"},
		{exampleP, "turn 0", "1/1", "1/1", "1/1"},
		{"1 2 2a 5a 7 8", "turn 0", "0/2a", "0/2a", "0/2a"},
		{"1 2 2a 5a 7 8", "turn 0", "0/1", "0/7", "0/7"},
		{"1 2 2a 5a 7 8", "turn 0", "0/5a", "0/5a", "0/5a"},
		{exampleP, "swap 0", "0/5", "0/6", "-"},
		{exampleP, "swap 0", "0/6", "-", "0/5"},
		{exampleP, "swap 1", "1/1", "1/2", "1/2"},
		{"1 2 2a 5", "swap 0", "0/2a", "0/1a", "-"},
		{"1 2 2a 5", "count 0", "0/2a", "0/4", "-"},
		{"1 2 2a 5", "count 0", "0/4", "-", "0/2a"},
		{"1 2 2a 5", "count 0", "0/5", "0/3", "-"},
		{exampleP, "join 1 0", "1/2", "0/8", "-"},
		{exampleP, "join 1 0", "0/7", "-", "1/1"},
		{exampleP, "join 1 0", "0/1", "0/1", "0/1"},
		{exampleP, "divide 0/2", "0/2", "0/2 0/2a", "0/2"},
		{exampleP, "divide 0/2", "0/2a", "-", "0/2"},
		{"2b", "divide 0/2b", "0/2b", "0/2a 0/2b", "0/2b"},
		{"2b", "divide 0/2b", "0/2a", "-", "0/2b"},
		{exampleP, "fell 0/2", "0/2", "", "-"},
		{exampleP, "fell 0/2", "0/3", "0/3", "0/3"},
		{exampleP, "court 0 2 2 4", "0/4", "2/3", "-"},
		{exampleP, "court 0 2 2 4", "2/1", "-", "0/2"},
		{exampleP, "court 0 2 2 4", "0/5", "0/5", "0/5"},
		{exampleP, "turn 0", "0/9", "-", "-"},
		{exampleP, "turn 0", "0/1a", "-", "-"},
		{exampleP, "turn 0", "2/1", "-", "-"},
		{exampleP, "turn 0", "3/1", "-", "-"},
		{exampleP, "turn 0", "-1/1", "-", "-"},
	} {
		what := c.change + " of " + c.before + ", " + c.house
		l, e := street.Becomes(town(c.before), change(c.change), at(c.house))
		due, want := places(c.becomes), api.OK
		if c.becomes == "-" {
			due, want = nil, api.ErrNoSuch
		}
		if e != want || !slices.Equal(l, due) {
			t.Errorf("%s: becomes %v, error %d", what, l, e)
		}
		h, e := street.Was(town(c.before), change(c.change), at(c.house))
		was, want := api.Place{}, api.ErrNoSuch
		if c.was != "-" {
			was, want = at(c.was), api.OK
		}
		if e != want || h != was {
			t.Errorf("%s: was %v, error %d", what, h, e)
		}
	}
}

// TestDeeds is about P1.1 and P1.2: for many plans, what a change does to each
// house is what the chapter says of its plate.
func TestDeeds(t *testing.T) {
	d := die{state: 1}
	for range 4000 {
		p := d.plan(8)
		c := d.change(p)
		after, e := street.After(p, c)
		if e != api.OK {
			continue
		}
		var all []api.Place
		for _, h := range housesOf(p) {
			l, e := street.Becomes(p, c, h)
			if e != api.OK || !slices.Equal(l, deed(p, c, h)) {
				t.Fatalf("%v, %v, %v: %v, want %v", p, c, h, l, deed(p, c, h))
			}
			all = append(all, l...)
		}
		slices.SortFunc(all, comparePlaces)
		if len(after.Streets) != len(p.Streets) || !slices.Equal(all, housesOf(after)) {
			t.Fatalf("%v, %v: %v, want %v", p, c, after, all)
		}
	}
}

// deed returns what a house becomes by a change that can be made, told by how
// many plates come before and after its own.
func deed(p api.Plan, c api.Change, h api.Place) []api.Place {
	if h.Street != c.Street {
		return []api.Place{h}
	}
	x, odd := h.Plate, h.Plate.Number%2
	var near []api.Plate // the plates of its side of the street
	for _, y := range p.Streets[c.Street] {
		if y.Number%2 == odd {
			near = append(near, y)
		}
	}
	at := slices.Index(near, x)
	switch c.Kind {
	case api.ChangeTurn:
		h.Plate = near[len(near)-1-at]
	case api.ChangeSwap:
		h.Plate.Number = x.Number - 1 + 2*odd
	case api.ChangeCount:
		h.Plate = api.Plate{Number: 2*at + 2 - odd}
	case api.ChangeJoin:
		h.Street = c.Other
		for _, y := range p.Streets[c.Other] {
			h.Plate.Number = max(h.Plate.Number, x.Number+y.Number+y.Number%2)
		}
	case api.ChangeDivide:
		if x == c.From {
			return halves(p, h)
		}
	case api.ChangeFell:
		if x == c.From {
			return nil
		}
	case api.ChangeCourt:
		row := p.Streets[c.Street]
		if comparePlates(x, c.From) >= 0 && comparePlates(x, c.To) <= 0 {
			h = api.Place{Street: c.Other, Plate: api.Plate{Number: 1 + slices.Index(row, x) - slices.Index(row, c.From)}}
		}
	}
	return []api.Place{h}
}

// halves returns the two houses of one that is divided.
func halves(p api.Plan, h api.Place) []api.Place {
	other := h
	for other.Plate.Letter = 1; isHouse(p, other); {
		other.Plate.Letter++
	}
	l := []api.Place{h, other}
	slices.SortFunc(l, comparePlaces)
	return l
}

// TestOnce is P1.8: each house after a change was just one house, and a house
// becomes just those that were it.
func TestOnce(t *testing.T) {
	d := die{state: 8}
	for range 3000 {
		p := d.plan(8)
		c := d.change(p)
		after, e := street.After(p, c)
		if e != api.OK {
			continue
		}
		mustBe(t, "the plan after a change", street.Check(after), api.OK)
		for _, x := range housesOf(after) {
			h, e := street.Was(p, c, x)
			if e != api.OK || !isHouse(p, h) {
				t.Fatalf("%v, %v: %v was %v, error %d", p, c, x, h, e)
			}
			for _, y := range housesOf(p) {
				l, _ := street.Becomes(p, c, y)
				if slices.Contains(l, x) != (y == h) {
					t.Fatalf("%v, %v: %v was %v, but %v becomes %v", p, c, x, h, y, l)
				}
			}
		}
	}
}

// TestTwice is P1.9: a street that is turned or swapped twice has each house
// where it was, one that is counted twice is as if it were counted once.
func TestTwice(t *testing.T) {
	d := die{state: 9}
	for range 600 {
		p := d.plan(8)
		row := d.throw(len(p.Streets))
		for _, kind := range []int{api.ChangeTurn, api.ChangeSwap, api.ChangeCount} {
			c := api.Change{Kind: kind, Street: row}
			once, e := street.After(p, c)
			twice, f := street.After(once, c)
			due := p
			if kind == api.ChangeCount {
				due = once
			}
			if e != api.OK || f != api.OK || !samePlan(twice, due) {
				t.Fatalf("%v, %v twice: %v, errors %d %d", p, c, twice, e, f)
			}
			for _, h := range housesOf(p) {
				first, _ := street.Becomes(p, c, h)
				second, e := street.Becomes(once, c, first[0])
				want := h
				if kind == api.ChangeCount {
					want = first[0]
				}
				if e != api.OK || len(first) != 1 || !slices.Equal(second, []api.Place{want}) {
					t.Fatalf("%v, %v twice, %v: %v, then %v", p, c, h, first, second)
				}
			}
		}
	}
}

// TestHouses is P1.10: how many houses there are after a change.
func TestHouses(t *testing.T) {
	d := die{state: 10}
	met := map[int]int{}
	for range 3000 {
		p := d.plan(8)
		c := d.change(p)
		after, e := street.After(p, c)
		if e != api.OK {
			continue
		}
		met[c.Kind]++
		more := map[int]int{api.ChangeDivide: 1, api.ChangeFell: -1}[c.Kind]
		if len(housesOf(after)) != len(housesOf(p))+more {
			t.Fatalf("%v, %v: %v", p, c, after)
		}
	}
	for kind := api.ChangeTurn; kind <= api.ChangeCourt; kind++ {
		if met[kind] < 20 {
			t.Errorf("the kind %d was met only %d times", kind, met[kind])
		}
	}
}
