package part_test

import (
	"slices"
	"strings"
	"testing"

	"wayzgoose/api"
	"wayzgoose/part"
)

// isIn reports whether a list is what remains of another one without some of
// its lines.
func isIn(few, many []api.Person) bool {
	for _, x := range few {
		at := slices.Index(many, x)
		if at < 0 {
			return false
		}
		many = many[at+1:]
	}
	return true
}

// editsOf returns how many lines have to be inserted into a list, or removed,
// so that it is another one: all lists of lines that can stay are tried.
func editsOf(old, young []api.Person) int {
	for size := range len(old) + 1 {
		stay := func(gone []int) bool { return isIn(without(old, gone), young) }
		if _, ok := choices(len(old), size, stay); ok {
			return size + len(young) - (len(old) - size)
		}
	}
	return -1
}

// editsWith returns the edits of old parts with a list of people.
func editsWith(p api.Parts, l []api.Person) int {
	n := 0
	for at, old := range lists(p) {
		n += editsOf(old, sorted(at, l))
	}
	return n
}

// allPeople returns the different people of old parts in the order of the part
// of names.
func allPeople(p api.Parts) []api.Person {
	return slices.Compact(sorted(api.PartName, slices.Concat(p.ByStreet, p.ByName, p.ByTrade)))
}

// counts returns how often the parts of a person have them.
func counts(p api.Parts, x api.Person) []int {
	l := []int{count(p.ByStreet, x), count(p.ByName, x)}
	if x.Head != -1 {
		l = append(l, count(p.ByTrade, x))
	}
	return l
}

// eachList goes through all lists of people, each of whom is in it from low to
// high times, in the order of the part of names.
func eachList(l []api.Person, bounds func(x api.Person) (low, high int), do func([]api.Person)) {
	if len(l) == 0 {
		do(nil)
		return
	}
	low, high := bounds(l[0])
	for n := low; n <= high; n++ {
		eachList(l[1:], bounds, func(rest []api.Person) {
			do(slices.Concat(slices.Repeat(l[:1], n), rest))
		})
	}
}

// eachMending goes through all mendings that may be the best one.
func eachMending(p api.Parts, do func([]api.Person)) {
	eachList(allPeople(p), func(x api.Person) (int, int) { return slices.Min(counts(p, x)), slices.Max(counts(p, x)) }, do)
}

// isBetter reports whether one of two lists with some edits is better than the
// other one as a mending.
func isBetter(l []api.Person, edits int, other []api.Person, others int) bool {
	if edits != others {
		return edits < others
	}
	if len(l) != len(other) {
		return len(l) > len(other)
	}
	order := func(a, b api.Person) int { return strings.Compare(rank(api.PartName, a), rank(api.PartName, b)) }
	return slices.CompareFunc(l, other, order) < 0
}

// lossesOf returns what the parts have lost, and have too often, if the list was
// this one.
func lossesOf(p api.Parts, l []api.Person) []api.Loss {
	var all []api.Loss
	for at, old := range lists(p) {
		for _, x := range slices.Compact(sorted(at, slices.Concat(old, l))) {
			if n := count(l, x) - count(old, x); n != 0 {
				all = append(all, api.Loss{Part: at, Line: x, Many: max(n, -n), Lost: n > 0})
			}
		}
	}
	return all
}

// TestMend is P6.5, P6.6 and P6.17: Mend returns the best of all mendings, which
// are tried one by one, and Losses and Same what follows from it.
func TestMend(t *testing.T) {
	d := die{state: 17}
	m := met{}
	for range 1200 {
		v := d.volume()
		p := d.parts(v, d.throw(2) == 0)
		var best []api.Person
		least, as := -1, 0
		eachMending(p, func(l []api.Person) {
			n := editsWith(p, l)
			if n == least {
				as++
			}
			if least < 0 || isBetter(l, n, best, least) {
				if n != least {
					as = 0
				}
				best, least = l, n
			}
		})
		mustMend(t, "thrown", v, p, best, least, lossesOf(p, best))
		if t.Failed() {
			t.Fatalf("%v", p)
		}
		m["edits"] += least
		if as > 0 {
			m["several"]++
		}
		if least == 0 {
			m["none"]++
		}
	}
	m.mustAll(t, 100, "edits", "several", "none")
}

// TestMendWild is P6.5 for old parts that have hardly anything in common.
func TestMendWild(t *testing.T) {
	d := die{state: 18}
	for range 400 {
		v := d.volume()
		if d.throw(2) == 0 {
			v.Trades, v.People = api.Trades{}, nil
		}
		var p api.Parts
		for at := range parts {
			l := d.people(v, api.MaxPart)
			if at == api.PartTrade {
				l = sorted(at, l)
			}
			*list(&p, at) = shuffled(&d, l)
		}
		l, n, e := part.Mend(v, p)
		mustBe(t, "Mend", e, api.OK)
		if n != editsWith(p, l) || !isSorted(api.PartName, l) {
			t.Fatalf("%v: %v with %d edits", p, l, n)
		}
		eachMending(p, func(other []api.Person) {
			if isBetter(other, editsWith(p, other), l, n) {
				t.Fatalf("%v: %v is better than %v", p, other, l)
			}
		})
	}
}

// TestMendMany is P6.5 for as many different lines as there can be.
func TestMendMany(t *testing.T) {
	v := volume(5, 4, "")
	v.Streets = 3
	row := func(text string) []api.Person { return people(v.Trades, text) }
	p := api.Parts{
		ByStreet: row("an 0/1 baker, bo 0/2 baker, cy 1/3 baker, di 2/4 baker"),
		ByName:   row("ed 0/1 baker, fy 0/2 baker, gu 1/3 baker, ho 2/4 baker"),
		ByTrade:  row("ib 0/1 baker, ko 0/2 baker, lu 1/3 baker, mo 2/4 baker"),
	}
	mustMend(t, "twelve lines", v, p, nil, 12, lossesOf(p, nil))
	for at := range parts {
		for i := range *list(&p, at) {
			(*list(&p, at))[i].Head = -1
		}
	}
	p.ByTrade = nil
	all := append(slices.Clone(p.ByStreet), p.ByName...)
	mustMend(t, "eight people without a trade", v, p, all, 8, lossesOf(p, all))
}

// TestSamePeople is P6.15: if the three parts are set out of one list of people,
// Mend returns it, without edits.
func TestSamePeople(t *testing.T) {
	d := die{state: 15}
	for range 1500 {
		v := d.volume()
		l := d.people(v, api.MaxPart)
		mustMend(t, "parts of one list", v, setOut(l), sorted(api.PartName, l), 0, nil)
	}
}

// TestOneLine is P6.16: if one line of one part is lost, or a line of somebody
// with a trade is doubled, Mend returns the list with one edit, and Losses names
// this line and this part alone.
func TestOneLine(t *testing.T) {
	d := die{state: 16}
	m := met{}
	for range 500 {
		v := d.volume()
		l := d.people(v, api.MaxPart)
		whole := setOut(l)
		for at, lines := range lists(whole) {
			for i, x := range lines {
				p := cloneParts(whole)
				*list(&p, at) = slices.Delete(*list(&p, at), i, i+1)
				mustMend(t, "a line less", v, p, sorted(api.PartName, l), 1, []api.Loss{{Part: at, Line: x, Many: 1, Lost: true}})
				m["lost"]++
				if x.Head == -1 || len(lines) == api.MaxPart {
					continue
				}
				p = cloneParts(whole)
				*list(&p, at) = slices.Insert(*list(&p, at), i, x)
				mustMend(t, "a line more", v, p, sorted(api.PartName, l), 1, []api.Loss{{Part: at, Line: x, Many: 1}})
				m["doubled"]++
			}
		}
	}
	m.mustAll(t, 500, "lost", "doubled")
}

// TestFewestEdits is P6.17: no list of the people of the old parts has fewer
// edits, nor as many and more people, than Mend returns. If the parts are in
// their orders this is so of all lists, not only of those that may be the best
// mending.
func TestFewestEdits(t *testing.T) {
	d := die{state: 19}
	m := met{}
	for range 600 {
		v := d.volume()
		p := d.parts(v, true)
		if len(allPeople(p)) > 5 {
			continue
		}
		l, edits, e := part.Mend(v, p)
		mustBe(t, "Mend", e, api.OK)
		most := func(x api.Person) (int, int) { return 0, slices.Max(counts(p, x)) + 1 }
		eachList(allPeople(p), most, func(other []api.Person) {
			if n := editsWith(p, other); n < edits || n == edits && len(other) > len(l) {
				t.Fatalf("%v: %v has %d edits, %v has %d", p, other, n, l, edits)
			}
			m["lists"]++
		})
	}
	m.mustAll(t, 10000, "lists")
}

// TestCounted is P6.18: the edits of Mend are at least the sum of all Many of
// Losses, and just this sum if no part has lines in a wrong order.
func TestCounted(t *testing.T) {
	d := die{state: 21}
	m := met{}
	for range 2000 {
		v := d.volume()
		p := d.parts(v, d.throw(2) == 0)
		_, edits, e := part.Mend(v, p)
		mustBe(t, "Mend", e, api.OK)
		losses, e := part.Losses(v, p)
		mustBe(t, "Losses", e, api.OK)
		sum, inOrder := 0, true
		for _, x := range losses {
			sum += x.Many
		}
		for at := range parts {
			moved, _ := part.Moved(v, p, at)
			inOrder = inOrder && len(moved) == 0
		}
		if edits < sum || inOrder && edits != sum {
			t.Fatalf("%v: %d edits, %v", p, edits, losses)
		}
		if inOrder {
			m["in order"]++
		} else if edits > sum {
			m["more"]++
		}
	}
	m.mustAll(t, 100, "in order", "more")
}

// TestMended is P6.19: if the parts are set anew out of the people of Mend, they
// are the same, and Losses returns nothing.
func TestMended(t *testing.T) {
	d := die{state: 22}
	m := met{}
	for range 2000 {
		v := d.volume()
		p := d.parts(v, false)
		l, edits, e := part.Mend(v, p)
		mustBe(t, "Mend", e, api.OK)
		if len(l) > api.MaxPart {
			continue
		}
		anew := setOut(l)
		for at := range parts {
			order := ordered(t, inVolume(v, l), at)
			mustEqual(t, "the part set anew", some(inVolume(v, l), order...), lists(anew)[at])
		}
		mustMend(t, "parts set anew", v, anew, l, 0, nil)
		if edits > 0 {
			m["mended"]++
		}
	}
	m.mustAll(t, 500, "mended")
}

// TestMendOthers is about what the old parts do not depend on: the people of the
// volume, its width, its rows and its rules.
func TestMendOthers(t *testing.T) {
	d := die{state: 23}
	for range 300 {
		v := d.volume()
		p := d.parts(v, false)
		l, edits, _ := part.Mend(v, p)
		losses, _ := part.Losses(v, p)
		v.People, v.Width, v.Rows, v.Rules = d.people(v, api.MaxPersons), 1+d.throw(api.MaxWidth), 3, nil
		mustMend(t, "another volume", v, p, l, edits, losses)
	}
}
