package kin_test

import (
	"slices"

	"wayzgoose/api"
	"wayzgoose/street"
)

// die throws numbers that are the same in every run of the tests.
type die struct{ state uint64 }

// throw returns a number from 0 to n - 1.
func (d *die) throw(n int) int {
	d.state = d.state*6364136223846793005 + 1442695040888963407
	return int((d.state >> 33) % uint64(n))
}

// pick returns one of some items.
func pick[T any](d *die, l ...T) T { return l[d.throw(len(l))] }

// shuffled returns all numbers below n in some order.
func (d *die) shuffled(n int) []int {
	l := upTo(n)
	for i := range l {
		j := i + d.throw(n-i)
		l[i], l[j] = l[j], l[i]
	}
	return l
}

// house returns a house of a plan that can be that of a person, or false if
// there is none.
func (d *die) house(p api.Plan) (api.Place, bool) {
	var l []api.Place
	for i, row := range p.Streets {
		for _, x := range row {
			if x.Letter == 0 {
				l = append(l, at(i, x.Number))
			}
		}
	}
	if len(l) == 0 {
		return api.Place{}, false
	}
	return pick(d, l...), true
}

// change returns a change that can be made more often than not.
func (d *die) change(p api.Plan) api.Change {
	h, ok := d.house(p)
	if !ok {
		return turn(0)
	}
	other := d.throw(len(p.Streets))
	switch d.throw(7) {
	case 0:
		return turn(h.Street)
	case 1:
		return api.Change{Kind: api.ChangeCount, Street: h.Street}
	case 2:
		return join(h.Street, other)
	case 3:
		return divide(h.Street, h.Plate.Number)
	case 4:
		return fell(h.Street, h.Plate.Number)
	case 5:
		return api.Change{Kind: api.ChangeCourt, Street: h.Street, Other: other, From: h.Plate, To: h.Plate}
	}
	return swap(h.Street)
}

// story returns a story with 1 to MaxPasts truths.
func (d *die) story() api.Story {
	for {
		s := api.Story{First: plan(pick(d, "[1 2][1]", "[1 2 3 4]", "[1 1a 3][]", "[1][2][3]", "[2 4 6 8 10 12]", "[39 40][]", "[1 2 2a 3 4 5 6][]"))}
		now := s.First
		for range pick(d, 0, 1, 1, 2, 2, 3) {
			x := api.Step{}
			for range pick(d, 1, 2, 2, 3) {
				x.Ways = append(x.Ways, d.change(now))
			}
			s.Steps = append(s.Steps, x)
			next, e := street.After(now, x.Ways[0])
			if e != api.OK {
				break
			}
			now = next
		}
		if from, _ := d.house(s.First); d.throw(6) == 0 {
			if to, e := street.Where(s, from); e == api.OK && len(to) > 0 {
				s.Facts = append(s.Facts, api.Fact{From: from, To: pick(d, to...)})
			}
		}
		if l, e := street.Truths(s); e == api.OK && len(l) > 0 && len(l) <= api.MaxPasts {
			return s
		}
	}
}

// spellings are names some of which can be the same by someRules.
var spellings = []string{"ann", "anne", "ANN", "an", "smith", "smyth", "SMIT", "smythe", "ben", "CAD", "chad"}

func someRules() []api.Rule { return rules("y=i nn=n e= h=") }

// someTrades are trades.
func someTrades() []api.Trades {
	return []api.Trades{
		trades(exampleT), trades(exampleT), trades("finis\n"),
		trades("class a\nclass b in a\nclass c in a\nclass d in c\nclass e\na is a\nb is b\nc is c\nd is d\ne is e\nf also a\nfinis\n"),
	}
}

// head returns a trade, or none.
func (d *die) head(t api.Trades) int {
	l := []int{-1}
	for n, h := range t.Heads {
		if h.Class != -1 {
			l = append(l, n)
		}
	}
	return pick(d, l...)
}

// someName returns a name, more often one of a few.
func (d *die) someName() string {
	return pick(d, pick(d, spellings, spellings[:4], spellings[4:8])...)
}

// old returns an old one.
func (d *die) old(k api.Kin) api.Person {
	h, _ := d.house(k.Story.First)
	return api.Person{Name: d.someName(), Street: h.Street, Number: h.Plate.Number, Head: d.head(k.Trades)}
}

// new returns a new one: somebody else, or an old one, changed or not, who has
// moved or not.
func (d *die) new(k api.Kin) api.Person {
	p := d.old(k)
	if len(k.Before) > 0 && d.throw(5) > 0 {
		q := pick(d, k.Before...)
		p.Street, p.Number = q.Street, q.Number
		if d.throw(4) > 0 {
			p.Name = q.Name
		}
		if d.throw(4) > 0 {
			p.Head = q.Head
		}
	}
	if d.throw(8) == 0 {
		p.Number = 1 + d.throw(api.MaxNumber)
	}
	to, e := street.Where(k.Story, houseOf(p))
	to = slices.DeleteFunc(to, func(h api.Place) bool { return h.Plate.Letter > 0 })
	if e == api.OK && len(to) > 0 && d.throw(5) > 0 {
		h := pick(d, to...)
		p.Street, p.Number = h.Street, h.Plate.Number
	}
	return p
}

// fact returns a fact of some kin that have none of this pair, or false if it
// finds none.
func (d *die) fact(k api.Kin) (api.Tie, bool) {
	for range 20 {
		x := api.Tie{A: d.throw(len(k.Before) + 1), B: d.throw(len(k.After) + 1), Same: d.throw(2) == 0}
		isMet := func(y api.Tie) bool { return y.A == x.A && y.B == x.B }
		if x.A < len(k.Before) && x.B < len(k.After) && !slices.ContainsFunc(k.Facts, isMet) {
			return x, true
		}
	}
	return api.Tie{}, false
}

// kin returns valid kin.
func (d *die) kin() api.Kin {
	k := api.Kin{Story: d.story(), Trades: pick(d, someTrades()...)}
	if d.throw(4) > 0 {
		all := someRules()
		k.Rules = all[d.throw(2) : 2+d.throw(3)]
	}
	for range pick(d, 0, 1, 2, 2, 3, 3, 4) {
		k.Before = append(k.Before, d.old(k))
	}
	for range pick(d, 0, 1, 2, 2, 3, 3, 4) {
		k.After = append(k.After, d.new(k))
	}
	most := pick(d, 3, 4, 5, 5)
	k.Gone, k.New, k.Moved = d.throw(most), d.throw(most), d.throw(most)
	for range pick(d, 0, 0, 0, 1, 1, 2, 3, 4) {
		if x, ok := d.fact(k); ok {
			k.Facts = append(k.Facts, x)
		}
	}
	return k
}

// someKin calls a test with the scenes of kin thrown by a die, and all their
// truths; those without a truth are left out if it says so.
func someKin(state uint64, many int, clash bool, test func(s scene, truths []truth)) {
	d := die{state: state}
	for n := 0; n < many; {
		s := sceneOf(d.kin())
		if truths := s.truths(); clash || len(truths) > 0 {
			test(s, truths)
			n++
		}
	}
}
