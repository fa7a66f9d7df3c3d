package lodge_test

import (
	"cmp"
	"slices"

	"wayzgoose/api"
	"wayzgoose/street"
)

// die throws numbers that are the same in every run of the tests.
type die struct{ state uint64 }

// throw returns a number from 0 to n - 1.
func (d *die) throw(n int) int {
	d.state = d.state*6364136223846793005 + 1442695040888963407
	return int((d.state >> 33) % uint64(n))
}

// pick returns one of some items.
func pick[T any](d *die, l ...T) T { return l[d.throw(len(l))] }

// plan returns a valid plan with so many houses.
func (d *die) plan(houses int) api.Plan {
	p := api.Plan{Streets: make([][]api.Plate, 1+d.throw(3))}
	top := pick(d, 4, 8, 40)
	for n := 0; n < houses; {
		x := api.Plate{Number: 1 + d.throw(top)}
		if d.throw(3) == 0 {
			x.Letter = d.throw(5)
		}
		row := &p.Streets[d.throw(len(p.Streets))]
		if !slices.Contains(*row, x) {
			*row = append(*row, x)
			n++
		}
	}
	for _, row := range p.Streets {
		slices.SortFunc(row, func(a, b api.Plate) int {
			return cmp.Or(cmp.Compare(a.Number, b.Number), cmp.Compare(a.Letter, b.Letter))
		})
	}
	return p
}

// house returns a house of a plan that has some.
func (d *die) house(p api.Plan) api.Place {
	for {
		row := d.throw(len(p.Streets))
		if l := p.Streets[row]; len(l) > 0 {
			return api.Place{Street: row, Plate: pick(d, l...)}
		}
	}
}

// change returns a change that can be made more often than not; the plan has a
// house.
func (d *die) change(p api.Plan) api.Change {
	h := d.house(p)
	c := api.Change{Kind: pick(d, 1, 2, 2, 3, 4, 5, 6, 7), Street: h.Street}
	switch c.Kind {
	case api.ChangeJoin:
		c.Other = d.throw(len(p.Streets))
	case api.ChangeDivide, api.ChangeFell:
		c.From = h.Plate
	case api.ChangeCourt:
		c.Other = d.throw(len(p.Streets))
		c.From, c.To = h.Plate, h.Plate
	}
	return c
}

// story returns a story with 1 to MaxPasts truths whose plan has so many houses.
func (d *die) story(houses int) api.Story {
	for {
		s := api.Story{First: d.plan(houses)}
		now := s.First
		for range pick(d, 0, 1, 1, 1, 2, 2, 3) {
			step := api.Step{}
			for range pick(d, 1, 2, 2, 3) {
				step.Ways = append(step.Ways, d.change(now))
			}
			s.Steps = append(s.Steps, step)
			next, e := street.After(now, step.Ways[0])
			if e != api.OK || len(slices.Concat(next.Streets...)) == 0 {
				break
			}
			now = next
		}
		if from := d.house(s.First); d.throw(6) == 0 {
			if to, e := street.Where(s, from); e == api.OK && len(to) > 0 {
				s.Facts = append(s.Facts, api.Fact{From: from, To: pick(d, to...)})
			}
		}
		if l, e := street.Truths(s); e == api.OK && len(l) > 0 && len(l) <= api.MaxPasts {
			return s
		}
	}
}

// spellings are names some of which can be the same by someRules.
var spellings = []string{
	"ann", "anne", "an", "ben", "BEN", "bena", "smith", "SMIT", "smyth", "smythe", "CAD", "chad", "cad",
	"eeann", "anneee", "esmith",
}

func someRules() []api.Rule { return rules("nn=n y=i e= ch=c") }

// lodging returns a valid lodging without entries: those whose lives are many
// are thrown seldom.
func (d *die) lodging() api.Lodging {
	l := api.Lodging{Days: pick(d, 1, 2, 2, 3, 3, 3, 4)}
	l.Stay = 1 + d.throw(l.Days)
	from := pick(d, spellings, spellings, spellings[:3], spellings[6:10])
	for many := pick(d, 1, 2, 2, 3); len(l.People) < many; {
		x := pick(d, from...)
		sameKey := func(s string) bool { return keyOf(s) == keyOf(x) }
		if !slices.ContainsFunc(l.People, sameKey) {
			l.People = append(l.People, x)
		}
	}
	l.Story = d.story(1 + d.throw(api.MaxCells/len(l.People)))
	if len(l.People) == 3 && len(homesOf(l)) == 2 && d.throw(4) > 0 {
		l.Days, l.Stay = min(l.Days, 2), min(l.Stay, 2)
	}
	if d.throw(3) > 0 {
		all := someRules()
		l.Rules = all[d.throw(2) : 2+d.throw(3)]
	}
	return l
}

// entry returns an entry that is valid in a lodging, true or not.
func (d *die) entry(l api.Lodging) api.Entry {
	low := d.throw(l.Days)
	x := api.Entry{Name: pick(d, spellings...), House: d.house(l.Story.First), Low: low, High: low + d.throw(l.Days-low)}
	if d.throw(2) == 0 {
		x.Name = pick(d, l.People...)
	}
	if d.throw(2) == 0 {
		x.Late = true
		if d.throw(5) == 0 {
			x.House.Plate = api.Plate{Number: 1 + d.throw(6), Letter: d.throw(3)}
		} else if to, e := street.Where(l.Story, x.House); e == api.OK && len(to) > 0 {
			x.House = pick(d, to...)
		}
	}
	return x
}

// trueEntry returns an entry that is true in a truth of a lodging, or false if
// nobody has a home in it that remains.
func (d *die) trueEntry(l api.Lodging, t truth) (api.Entry, bool) {
	homes := homesOf(l)
	fate, _ := fates(l.Story, homes, t.ways)
	for range 20 {
		person, day := d.throw(len(l.People)), d.throw(l.Days)
		home := t.lives[person][day]
		if home == -1 {
			continue
		}
		low := d.throw(day + 1)
		x := api.Entry{Name: l.People[person], House: homes[home], Low: low, High: day + d.throw(l.Days-day)}
		for _, other := range spellings {
			if y := (api.Entry{Name: other}); d.throw(4) == 0 && fits(l, person, y) {
				x.Name = other
			}
		}
		if len(fate[home]) > 0 && d.throw(2) == 0 {
			x.Late, x.House = true, pick(d, fate[home]...)
		}
		return x, true
	}
	return api.Entry{}, false
}

// told returns a lodging with entries, and a truth of it without them in which
// most of the entries are true, or all.
func (d *die) told(all bool) (api.Lodging, truth) {
	l := d.lodging()
	t := pick(d, truthsOf(l)...)
	for range d.throw(api.MaxEntries + 1) {
		x, ok := d.trueEntry(l, t)
		if !all && d.throw(3) == 0 {
			x, ok = d.entry(l), true
		}
		if ok {
			l.Entries = append(l.Entries, x)
		}
	}
	return l, t
}
