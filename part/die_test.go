package part_test

import (
	"slices"
	"strings"
	"testing"

	"wayzgoose/api"
)

// die throws numbers that are the same in every run of the tests.
type die struct{ state uint64 }

// throw returns a number from 0 to n - 1.
func (d *die) throw(n int) int {
	d.state = d.state*6364136223846793005 + 1442695040888963407
	return int((d.state >> 33) % uint64(n))
}

// pick returns one of some items.
func pick[T any](d *die, l ...T) T { return l[d.throw(len(l))] }

// shuffled returns a list in another order.
func shuffled[T any](d *die, l []T) []T {
	l = slices.Clone(l)
	for i := range l {
		j := i + d.throw(len(l)-i)
		l[i], l[j] = l[j], l[i]
	}
	return l
}

// spellings are names many of which begin alike, are abbreviated alike, or can
// be the same by the rules of allRules.
func spellings() []string {
	return []string{
		"smith", "smyth", "smythe", "SMIT", "smit", "SAM", "sam", "s", "S", "chad", "CAD", "cad", "CADA", "chada", "JAN", "YN", "jan",
		"anna", "ANNA", "anne", "ann", "an", "ralph", "RALF", "ralf", "XXXXXX", "XXXXXY", "shsh", "abcdef", "abcdeg",
	}
}

const allRules = "ph=f y=i e= n=nn"

// someTrades are texts of trades.
func someTrades() []string {
	return []string{
		exampleT,
		"class wood\nclass iron\nclass nails in iron\ncarver is wood\ncooper is wood\nnailer is nails\nsmith is iron\nturner see carver\nfinis\n",
		"class a\nclass b in a\nclass c in a\nclass d in c\nclass e\na is a\nb is b\nc is c\nd is d\ne is e\nf also a\nfinis\n",
		"finis\n",
	}
}

// person returns a valid person in a volume. Many live together.
func (d *die) person(v api.Volume) api.Person {
	p := api.Person{Name: pick(d, spellings()...), Street: d.throw(v.Streets), Number: pick(d, 1, 2, 2, 9, 10, 40), Head: -1, Bold: d.throw(3) == 0}
	if d.throw(3) > 0 {
		p.Name = pick(d, spellings()[:4+d.throw(8)]...)
	}
	if d.throw(4) > 0 {
		p.Head = pick(d, businesses(v.Trades)...)
	}
	return p
}

// businesses returns -1 and all headings that are trades.
func businesses(t api.Trades) []int {
	l := []int{-1}
	for i, h := range t.Heads {
		if h.Class != -1 {
			l = append(l, i)
		}
	}
	return l
}

// change returns a person who differs in something from p.
func (d *die) change(v api.Volume, p api.Person) api.Person {
	other := d.person(v)
	switch d.throw(5) {
	case 0:
		p.Name = other.Name
	case 1:
		p.Street = other.Street
	case 2:
		p.Number = other.Number
	case 3:
		p.Head = other.Head
	case 4:
		p.Bold = other.Bold
	}
	return p
}

// people returns at most so many valid people, some of whom are nearly the same.
func (d *die) people(v api.Volume, most int) []api.Person {
	var l []api.Person
	for range d.throw(most + 1) {
		p := d.person(v)
		if len(l) > 0 && d.throw(2) == 0 {
			p = d.change(v, pick(d, l...))
		}
		l = append(l, p)
	}
	return l
}

// volume returns a valid volume.
func (d *die) volume() api.Volume {
	v := api.Volume{Streets: 1 + d.throw(3), Width: pick(d, 1, 2, 3, 3, 4, 4, 5, 5, 6, 8, 12, 13), Rows: 3 + d.throw(6)}
	v.Trades = trades(pick(d, someTrades()...))
	v.Rules = rules(allRules)[:d.throw(5)]
	v.People = d.people(v, api.MaxPersons)
	return v
}

// parts returns old parts that are set out of a list of people, but in which
// some lines are lost, doubled, moved or others; a part is in its order then if
// it says so.
func (d *die) parts(v api.Volume, inOrder bool) api.Parts {
	p := setOut(d.people(v, api.MaxPart))
	for range d.throw(6) {
		at := d.throw(parts)
		l := list(&p, at)
		d.spoil(v, l)
		if at == api.PartTrade {
			*l = slices.DeleteFunc(*l, func(x api.Person) bool { return x.Head == -1 })
		}
		if inOrder {
			*l = sorted(at, *l)
		}
	}
	return p
}

// spoil changes a line of a part, which has at most MaxPart lines then.
func (d *die) spoil(v api.Volume, l *[]api.Person) {
	if len(*l) == 0 {
		*l = append(*l, d.person(v))
		return
	}
	at := d.throw(len(*l))
	full := len(*l) == api.MaxPart
	switch d.throw(5) {
	case 0:
		*l = slices.Delete(*l, at, at+1)
	case 1:
		if !full {
			*l = slices.Insert(*l, at, (*l)[at])
		}
	case 2:
		*l = shuffled(d, *l)
		if d.throw(3) == 0 {
			slices.SortFunc(*l, func(a, b api.Person) int { return strings.Compare(b.Name, a.Name) })
		}
	case 3:
		(*l)[at] = d.change(v, (*l)[at])
	case 4:
		if !full {
			*l = append(*l, d.person(v))
		}
	}
}

// met counts what the thrown inputs were like.
type met map[string]int

// mustAll fails unless each of these was met so often.
func (m met) mustAll(t *testing.T, least int, what ...string) {
	t.Helper()
	for _, w := range what {
		if m[w] < least {
			t.Errorf("%s: met %d times only", w, m[w])
		}
	}
}
