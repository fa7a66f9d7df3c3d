package part_test

import (
	"testing"

	"wayzgoose/api"
	"wayzgoose/part"
)

// TestMovedExamples is P6.5: the examples of Moved, and other ones. The lines
// are told by their places in the order of the part.
func TestMovedExamples(t *testing.T) {
	ordered := people(trades(exampleT), "an 0/1 baker, bo 0/2 confectioner, cy 0/3 hatter, di 0/4 mercer")
	v := volume(5, 4, "")
	for at := range parts {
		for _, c := range []struct{ lines, want string }{
			{"", ""}, {"0", ""}, {"0 1 2 3", ""}, {"0 0 0 0", ""}, {"1 1 2 2", ""}, {"1 0", "0"}, {"0 2 1", "1"}, {"1 0 2 3", "0"},
			{"3 0 1 2", "0"}, {"1 2 3 0", "3"}, {"2 3 0 1", "0 1"}, {"3 2 1 0", "0 1 2"}, {"1 1 0 0", "0 1"}, {"0 1 0 1", "1"},
			{"0 0 1 0", "2"}, {"2 0 2 1", "0 2"}, {"0 3 1 2", "1"}, {"1 0 3 2", "0 2"},
		} {
			var lines []api.Person
			for _, n := range numbers(c.lines) {
				lines = append(lines, ordered[n])
			}
			var p api.Parts
			*list(&p, at) = lines
			l, e := part.Moved(v, p, at)
			mustBe(t, "Moved", e, api.OK)
			mustEqual(t, "Moved of "+c.lines, l, numbers(c.want))
			l, _ = part.Moved(v, p, (at+1)%parts)
			mustEqual(t, "Moved of a part without lines", l, nil)
		}
	}
	p := exampleO()
	l, e := part.Moved(exampleV(), p, 1)
	mustBe(t, "Moved(V; O; 1)", e, api.OK)
	mustEqual(t, "Moved(V; O; 1)", l, nil)
	p.ByName = some(exampleV(), 2, 3, 0, 1)
	l, e = part.Moved(exampleV(), p, 1)
	mustBe(t, "Moved with 2 3 0 1", e, api.OK)
	mustEqual(t, "Moved with 2 3 0 1", l, []int{0})
}

// TestMoved is P6.5 and P6.14: without the lines of Moved a part is in order;
// without fewer, or without a list of as many that comes before, it is not: all
// lists are tried.
func TestMoved(t *testing.T) {
	d := die{state: 14}
	m := met{}
	for range 8000 {
		v := d.volume()
		p := d.parts(v, false)
		for at, lines := range lists(p) {
			l, e := part.Moved(v, p, at)
			mustBe(t, "Moved", e, api.OK)
			good := func(indices []int) bool { return isSorted(at, without(lines, indices)) }
			for size := range len(lines) + 1 {
				if want, ok := choices(len(lines), size, good); ok {
					mustEqual(t, "Moved", l, want)
					break
				}
			}
			m[[]string{"none", "one", "two", "three"}[len(l)]]++
		}
	}
	m.mustAll(t, 20, "none", "one", "two", "three")
}

// TestMendExamples is P6.5 and P6.6: the examples of Mend, Losses and Same.
func TestMendExamples(t *testing.T) {
	v := exampleV()
	with := func(byStreet, byName string) api.Parts {
		p := exampleO()
		p.ByStreet, p.ByName = some(v, numbers(byStreet)...), some(v, numbers(byName)...)
		return p
	}
	for _, c := range []struct {
		what   string
		p      api.Parts
		people string
		edits  int
		losses []api.Loss
	}{
		{"O", exampleO(), "3 2 0 1", 1, []api.Loss{{Part: api.PartName, Line: v.People[1], Many: 1, Lost: true}}},
		{"2 3 0 1", with("3 0 1 2", "2 3 0 1"), "3 2 0 1", 2, nil},
		{"3 0 0 1", with("3 0 1", "3 0 0 1"), "3 0 1", 1, []api.Loss{{Part: api.PartName, Line: v.People[0], Many: 1}}},
		{"3 2 0 1", with("3 0 1 2", "3 2 0 1"), "3 2 0 1", 0, nil},
	} {
		mustMend(t, c.what, v, c.p, some(v, numbers(c.people)...), c.edits, c.losses)
	}
	p := with("3 0 1", "3 2 0 0 1")
	mustBe(t, "CheckParts with five lines", part.CheckParts(v, p), api.ErrFull)
}

// mustMend fails unless Mend, Losses and Same return this.
func mustMend(t *testing.T, what string, v api.Volume, p api.Parts, want []api.Person, edits int, losses []api.Loss) {
	t.Helper()
	l, n, e := part.Mend(v, p)
	mustBe(t, what+": Mend", e, api.OK)
	mustEqual(t, what+": Mend", l, want)
	if n != edits {
		t.Errorf("%s: %d edits, want %d", what, n, edits)
	}
	lost, e := part.Losses(v, p)
	mustBe(t, what+": Losses", e, api.OK)
	mustEqual(t, what+": Losses", lost, losses)
	same, e := part.Same(v, p)
	mustBe(t, what+": Same", e, api.OK)
	if same != (edits == 0) {
		t.Errorf("%s: Same returns %t", what, same)
	}
}

// TestMendTies is P6.5: which mending is the best one of several with as many
// edits. The lines are told by their numbers in a list.
func TestMendTies(t *testing.T) {
	all := people(trades(exampleT), "an 0/4, bo 0/3, cy 0/2, di 0/1, ed 0/5 baker, fy 0/6 hatter, gu 1/1, ho 1/3, ib 1/4, jo 1/2")
	v := volume(5, 4, "")
	of := func(text string) []api.Person {
		var l []api.Person
		for _, n := range numbers(text) {
			l = append(l, all[n])
		}
		return l
	}
	loss := func(at, line, many int, lost bool) api.Loss {
		return api.Loss{Part: at, Line: all[line], Many: many, Lost: lost}
	}
	for _, c := range []struct {
		what, byStreet, byName, byTrade string
		people                          string
		edits                           int
		losses                          []api.Loss
	}{
		{"nothing", "", "", "", "", 0, nil},
		{"one of two parts", "0", "", "", "0", 1, []api.Loss{loss(1, 0, 1, true)}},
		{"twice in one of two parts", "0 0", "", "", "0 0", 2, []api.Loss{loss(1, 0, 2, true)}},
		{"twice and once", "0", "0 0", "", "0 0", 1, []api.Loss{loss(0, 0, 1, true)}},
		{"one of three parts", "", "4", "", "", 1, []api.Loss{loss(1, 4, 1, false)}},
		{"two of three parts", "4", "", "4", "4", 1, []api.Loss{loss(1, 4, 1, true)}},
		{"once, twice and thrice", "4", "4 4", "4 4 4", "4 4", 2, []api.Loss{loss(0, 4, 1, true), loss(2, 4, 1, false)}},
		{"eight people in two parts", "3 2 1 0", "4 4 5 5", "4 4 5 5", "0 1 2 3 4 4 5 5", 8, []api.Loss{
			loss(0, 4, 2, true), loss(0, 5, 2, true), loss(1, 0, 1, true), loss(1, 1, 1, true), loss(1, 2, 1, true), loss(1, 3, 1, true),
		}},
		// In the part of streets 3 comes before 2, and 6 and 9 before 7 and 8.
		// Each mending has whom all their parts have, also if the lines are in a
		// wrong order, and it would have fewer edits without one of them.
		{"two lines in a wrong order", "2 3", "2 3", "", "2 3", 2, nil},
		{"two lines in a wrong order, one part only", "2 3", "", "", "2", 2, []api.Loss{loss(0, 3, 1, false), loss(1, 2, 1, true)}},
		{"three lines in a wrong order, one part only", "1 2 3", "", "", "1", 3, []api.Loss{loss(0, 3, 1, false), loss(0, 2, 1, false), loss(1, 1, 1, true)}},
		{"both parts in a wrong order", "2 3", "3 2", "", "2 3", 4, nil},
		{"two lines or two others", "7 8 6 9", "", "", "6 9", 4, []api.Loss{loss(0, 7, 1, false), loss(0, 8, 1, false), loss(1, 6, 1, true), loss(1, 9, 1, true)}},
	} {
		p := api.Parts{ByStreet: of(c.byStreet), ByName: of(c.byName), ByTrade: of(c.byTrade)}
		mustMend(t, c.what, v, p, of(c.people), c.edits, c.losses)
	}
}
