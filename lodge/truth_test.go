package lodge_test

import (
	"slices"
	"testing"

	"wayzgoose/api"
	"wayzgoose/lodge"
)

// TestTruths is about P5.1: how many different truths there are.
func TestTruths(t *testing.T) {
	two := "turn 0, swap 0"
	for _, c := range []struct {
		what string
		l    api.Lodging
		want int
	}{
		{"L", exampleL(""), 8},
		{"L with ben at 0/2 on the day 0", exampleL("ben 0/2 0"), 4},
		{"L with ben at 0/1 on the day 0", exampleL("ben 0/1 0"), 0},
		{"one home, one day", lodging("1", "anna", 1, 1, ""), 2},
		{"one home, four days", lodging("1", "anna", 4, 1, ""), 16},
		{"stays of two days", lodging("1", "anna", 4, 2, ""), 12},
		{"stays of three days", lodging("1", "anna", 4, 3, ""), 11},
		{"stays of four days", lodging("1", "anna", 4, 4, ""), 11},
		{"three days, stays of two", lodging("1", "anna", 3, 2, ""), 7},
		{"two days, stays of two", lodging("1", "anna", 2, 2, ""), 4},
		{"six homes, four days", lodging("1 2|3 4|5 6", "anna", 4, 1, ""), 2401},
		{"one home of two people", lodging("1", "anna ben", 1, 1, ""), 3},
		{"one home of two people, two days", lodging("1", "anna ben", 2, 1, ""), 9},
		{"one home of three people", lodging("1", "anna ben cyd", 1, 1, ""), 4},
		{"two homes of two people", lodging("1 2", "anna ben", 1, 1, ""), 7},
		{"three homes of two people, four days", lodging("1 2 3", "anna ben", 4, 1, ""), 28561},
		{"two homes of three people, four days", lodging("1|2", "anna ben cyd", 4, 1, ""), 28561},
		{"two ways that change nothing", withSteps(lodging("1", "anna", 1, 1, ""), "turn 0, turn 0", ""), 4},
		{"four truths of the story", withSteps(lodging("1 2", "anna", 1, 1, ""), two+";"+two, ""), 12},
		{"no entry, no home on a day", lodging("1", "anna", 1, 1, "ben 0/1 0"), 0},
		{"an entry of a day", lodging("1", "anna", 2, 1, "anna 0/1 1"), 2},
		{"an entry of two days", lodging("1", "anna", 2, 1, "anna 0/1 0 1"), 3},
		{"an entry twice", lodging("1", "anna", 2, 1, "anna 0/1 1, anna 0/1 1"), 2},
		{"an entry in other letters", lodging("1", "chad", 2, 1, "CAD 0/1 1"), 2},
		{"two people of one name", withRules(lodging("1", "smith smyth", 1, 1, "smith 0/1 0"), "y=i"), 2},
		{"an entry of a house that is late", withSteps(lodging("1 2", "anna", 1, 1, "anna late 0/1 0"), two, ""), 2},
		{"a house that only one truth has", withSteps(lodging("1 3", "anna", 1, 1, "anna late 0/2 0"), two, ""), 1},
		{"a house that no truth has", withSteps(lodging("1 3", "anna", 1, 1, "anna late 0/9 0"), two, ""), 0},
		{"both halves of a house", withSteps(lodging("1", "anna", 1, 1, "anna late 0/1 0, anna late 0/1a 0"), "divide 0/1", ""), 1},
		{"a house pulled down", withSteps(lodging("1 2", "anna", 1, 1, "anna late 0/1 0"), "fell 0/1, fell 0/2", ""), 1},
	} {
		if n, e := lodge.Truths(c.l); n != c.want || e != api.OK {
			t.Errorf("%s: %d, error %d, want %d", c.what, n, e, c.want)
		}
	}
}

// TestStays is about the terms of layer 5: which lives are possible. It is told
// at which home anna is on each day, -1 if this is not told.
func TestStays(t *testing.T) {
	for _, c := range []struct {
		homes string
		told  []int
		want  []int // how many truths there are with each Stay
	}{
		{"1", []int{0}, []int{1}},
		{"1", []int{-1}, []int{2}},
		{"1 2", []int{0, 1}, []int{1, 1}},
		{"1 2", []int{0, 1, 0}, []int{1, 0, 0}},
		{"1 2", []int{0, 0, 0, 0}, []int{1, 1, 1, 1}},
		{"1 2", []int{0, 0, 0, 1}, []int{1, 1, 1, 1}},
		{"1 2", []int{0, 0, 1, 1}, []int{1, 1, 1, 1}},
		{"1 2", []int{0, 1, 1, 1}, []int{1, 1, 1, 1}},
		{"1 2", []int{0, 1, 0, 0}, []int{1, 0, 0, 0}},
		{"1 2", []int{0, 0, 1, 0}, []int{1, 0, 0, 0}},
		{"1 2", []int{0, 1, 1, 0}, []int{1, 1, 0, 0}},
		{"1|2|3", []int{0, 1, 2}, []int{1, 0, 0}},
		{"1|2|3", []int{0, 1, 2, 0}, []int{1, 0, 0, 0}},
		{"1|2|3", []int{0, 1, 1, 2}, []int{1, 1, 0, 0}},
		{"1", []int{-1, 0, -1}, []int{4, 3, 3}},
		{"1", []int{0, -1, 0}, []int{2, 2, 2}},
		{"1", []int{-1, 0, 0, -1}, []int{4, 4, 3, 3}},
		{"1", []int{0, -1, 0, 0}, []int{2, 2, 2, 2}},
		{"1", []int{0, -1, -1, 0}, []int{4, 4, 4, 4}},
		{"1", []int{-1, 0, -1, 0}, []int{4, 3, 3, 3}},
		{"1", []int{0, -1, 0, -1}, []int{4, 3, 3, 3}},
		{"1", []int{-1, -1, 0, 0}, []int{4, 4, 4, 4}},
		{"1 2", []int{0, -1, 1}, []int{3, 3, 3}},
		{"1 2", []int{0, -1, 0}, []int{3, 2, 2}},
	} {
		for i, want := range c.want {
			l := lodging(c.homes, "anna", len(c.told), i+1, "")
			for day, home := range c.told {
				if home != -1 {
					l.Entries = append(l.Entries, api.Entry{Name: "anna", House: homesOf(l)[home], Low: day, High: day})
				}
			}
			if n, e := lodge.Truths(l); n != want || e != api.OK {
				t.Errorf("%v with stays of %d: %d truths, error %d, want %d", c.told, i+1, n, e, want)
			}
		}
	}
}

// met counts what the tests have met.
type met map[string]int

// mustAll fails unless all of these were met at least so often.
func (m met) mustAll(t *testing.T, least int, all ...string) {
	t.Helper()
	for _, what := range all {
		if m[what] < least {
			t.Errorf("%s only %d times", what, m[what])
		}
	}
}

// TestAllTruths is P5.7 for Truths: all lives are gone through in all truths of
// the story.
func TestAllTruths(t *testing.T) {
	d := die{state: 57}
	m := met{}
	for range 1500 {
		l, _ := d.told(false)
		want := len(truthsOf(l))
		if n, e := lodge.Truths(l); n != want || e != api.OK {
			t.Fatalf("%v: %d, error %d, want %d", l, n, e, want)
		}
		switch {
		case want == 0:
			m["no truth"]++
		case want == 1:
			m["one truth"]++
		case want > 100:
			m["many truths"]++
		}
		if len(pasts(l)) > 1 && slices.ContainsFunc(l.Entries, func(x api.Entry) bool { return x.Late }) {
			m["late entries in doubt"]++
		}
		if len(l.People) == 3 {
			m["three people"]++
		}
		if l.Stay > 1 && l.Days > 2 {
			m["stays"]++
		}
	}
	m.mustAll(t, 50, "no truth", "one truth", "many truths", "late entries in doubt", "three people", "stays")
}

// TestLongerStay is P5.14: with a longer Stay there is never a truth more, and
// with Stay 1 all lives are possible that do not meet.
func TestLongerStay(t *testing.T) {
	d := die{state: 514}
	fewer := 0
	for range 300 {
		l, _ := d.told(false)
		last := -1
		for l.Stay = 1; l.Stay <= l.Days; l.Stay++ {
			n, e := lodge.Truths(l)
			if e != api.OK || last != -1 && n > last {
				t.Fatalf("%v: %d truths, error %d, with a shorter stay %d", l, n, e, last)
			}
			if n < last {
				fewer++
			}
			last = n
		}
	}
	if fewer < 50 {
		t.Errorf("fewer truths only %d times", fewer)
	}
	for people := 1; people <= api.MaxPeople; people++ {
		for homes := 1; homes*people <= api.MaxCells; homes++ {
			for days := 1; days <= api.MaxDays; days++ {
				l := api.Lodging{People: []string{"anna", "ben", "cyd"}[:people], Days: days, Stay: 1}
				l.Story.First = api.Plan{Streets: [][]api.Plate{town("1 2 3 4 5 6").Streets[0][:homes]}}
				want := 1
				for range days {
					want *= apart(homes, people)
				}
				if n, e := lodge.Truths(l); n != want || e != api.OK {
					t.Errorf("%d people, %d homes, %d days: %d truths, error %d, want %d", people, homes, days, n, e, want)
				}
			}
		}
	}
}

// apart returns in how many ways people can have homes on one day, such that no
// two have the same one.
func apart(homes, people int) int {
	if people == 0 {
		return 1
	}
	return apart(homes, people-1) + homes*apart(homes-1, people-1)
}
