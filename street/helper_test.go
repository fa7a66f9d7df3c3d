package street_test

import (
	"cmp"
	"slices"
	"strconv"
	"strings"
	"testing"

	"wayzgoose/api"
	"wayzgoose/street"
)

// plate returns the plate that a text such as 2a is.
func plate(text string) api.Plate {
	number := strings.TrimRight(text, "abcdefg")
	x := api.Plate{}
	x.Number, _ = strconv.Atoi(number)
	if len(number) < len(text) {
		x.Letter = int(text[len(number)]-'a') + 1
	}
	return x
}

// town returns the plan that a text such as "1 2a 5|1 2|" is: its streets,
// with a stroke between each two.
func town(text string) api.Plan {
	p := api.Plan{}
	for _, row := range strings.Split(text, "|") {
		var l []api.Plate
		for _, word := range strings.Fields(row) {
			l = append(l, plate(word))
		}
		p.Streets = append(p.Streets, l)
	}
	return p
}

// at returns the place that a text such as 0/2a is.
func at(text string) api.Place {
	row, x, _ := strings.Cut(text, "/")
	n, _ := strconv.Atoi(row)
	return api.Place{Street: n, Plate: plate(x)}
}

// places returns places with a space between each two.
func places(text string) []api.Place {
	var l []api.Place
	for _, word := range strings.Fields(text) {
		l = append(l, at(word))
	}
	return l
}

// change returns the change that a text such as these is: turn 0, swap 0,
// count 0, join 1 0, divide 0/2, fell 0/2, court 0 2 1 4a.
func change(text string) api.Change {
	words := strings.Fields(text)
	kinds := []string{"", "turn", "swap", "count", "join", "divide", "fell", "court"}
	c := api.Change{Kind: slices.Index(kinds, words[0])}
	if c.Kind == api.ChangeDivide || c.Kind == api.ChangeFell {
		h := at(words[1])
		c.Street, c.From = h.Street, h.Plate
		return c
	}
	c.Street, _ = strconv.Atoi(words[1])
	if len(words) > 2 {
		c.Other, _ = strconv.Atoi(words[2])
	}
	if len(words) > 4 {
		c.From, c.To = plate(words[3]), plate(words[4])
	}
	return c
}

// changes returns changes with a comma between each two.
func changes(text string) []api.Change {
	var l []api.Change
	for _, word := range strings.Split(text, ",") {
		if strings.TrimSpace(word) != "" {
			l = append(l, change(word))
		}
	}
	return l
}

// story returns a story: its plan, its steps with a semicolon between each
// two, and its facts, such as "0/2=0/3 0/1=1/1".
func story(first, steps, facts string) api.Story {
	s := api.Story{First: town(first)}
	for _, step := range strings.Split(steps, ";") {
		if strings.TrimSpace(step) != "" {
			s.Steps = append(s.Steps, api.Step{Ways: changes(step)})
		}
	}
	for _, word := range strings.Fields(facts) {
		from, to, _ := strings.Cut(word, "=")
		s.Facts = append(s.Facts, api.Fact{From: at(from), To: at(to)})
	}
	return s
}

// exampleP is the plan P of the chapter's examples, exampleS its story S.
const exampleP = "1 2 3 4 5|1 2|"

func exampleS(facts string) api.Story { return story(exampleP, "turn 0, swap 0; join 1 0", facts) }

func samePlan(p, q api.Plan) bool {
	return slices.EqualFunc(p.Streets, q.Streets, slices.Equal[[]api.Plate])
}

func sameLists(a, b [][]int) bool { return slices.EqualFunc(a, b, slices.Equal[[]int]) }

func comparePlates(a, b api.Plate) int {
	return cmp.Or(cmp.Compare(a.Number, b.Number), cmp.Compare(a.Letter, b.Letter))
}

func comparePlaces(a, b api.Place) int {
	return cmp.Or(cmp.Compare(a.Street, b.Street), comparePlates(a.Plate, b.Plate))
}

// housesOf returns the houses of a plan in the order of its rows.
func housesOf(p api.Plan) []api.Place {
	var l []api.Place
	for i, row := range p.Streets {
		for _, x := range row {
			l = append(l, api.Place{Street: i, Plate: x})
		}
	}
	return l
}

func isHouse(p api.Plan, h api.Place) bool { return slices.Contains(housesOf(p), h) }

// die throws numbers that are the same in every run of the tests.
type die struct{ state uint64 }

// throw returns a number from 0 to n - 1.
func (d *die) throw(n int) int {
	d.state = d.state*6364136223846793005 + 1442695040888963407
	return int((d.state >> 33) % uint64(n))
}

// row returns the plates of a street with at most most houses.
func (d *die) row(most int) []api.Plate {
	all := map[api.Plate]bool{}
	top := []int{4, 12, 40}[d.throw(3)]
	for range d.throw(most + 1) {
		x := api.Plate{Number: 1 + d.throw(top)}
		if d.throw(3) == 0 {
			x.Letter = d.throw(5)
		}
		all[x] = true
	}
	var l []api.Plate
	for x := range all {
		l = append(l, x)
	}
	slices.SortFunc(l, comparePlates)
	return l
}

// plan returns a valid plan with at most most houses in each street.
func (d *die) plan(most int) api.Plan {
	p := api.Plan{}
	for range 1 + d.throw(3) {
		p.Streets = append(p.Streets, d.row(most))
	}
	// A street without houses is where a court can be.
	if d.throw(4) == 0 {
		p.Streets[d.throw(len(p.Streets))] = nil
	}
	return p
}

// house returns a house of the street, now and then one that it does not have.
func (d *die) house(p api.Plan, street int) api.Plate {
	row := p.Streets[street]
	if len(row) == 0 || d.throw(12) == 0 {
		return api.Plate{Number: d.throw(10), Letter: d.throw(3)}
	}
	return row[d.throw(len(row))]
}

// change returns a change that can be made more often than not.
func (d *die) change(p api.Plan) api.Change {
	c := api.Change{Kind: 1 + d.throw(7), Street: d.throw(len(p.Streets))}
	switch c.Kind {
	case api.ChangeJoin:
		c.Other = d.throw(len(p.Streets))
	case api.ChangeDivide, api.ChangeFell:
		c.From = d.house(p, c.Street)
	case api.ChangeCourt:
		c.Other = d.throw(len(p.Streets))
		if empty := slices.IndexFunc(p.Streets, func(row []api.Plate) bool { return len(row) == 0 }); empty >= 0 {
			c.Other = empty
		}
		c.From, c.To = d.house(p, c.Street), d.house(p, c.Street)
	}
	return c
}

// story returns a valid story, whose changes are most often such that they can
// be made.
func (d *die) story(most int) api.Story {
	s := api.Story{First: d.plan(most)}
	now := s.First
	for range d.throw(4) {
		step := api.Step{}
		for range 1 + d.throw(3) {
			step.Ways = append(step.Ways, d.change(now))
		}
		s.Steps = append(s.Steps, step)
		if next, e := street.After(now, step.Ways[0]); e == api.OK {
			now = next
		}
	}
	if all := housesOf(s.First); len(all) > 0 && d.throw(4) == 0 {
		s.Facts = append(s.Facts, d.fact(s))
	}
	return s
}

// fact returns a fact that may be so; the story has a house.
func (d *die) fact(s api.Story) api.Fact {
	all := housesOf(s.First)
	f := api.Fact{From: all[d.throw(len(all))]}
	f.To = f.From
	if l, e := street.Where(s, f.From); e == api.OK && len(l) > 0 {
		f.To = l[d.throw(len(l))]
	}
	return f
}

// fates returns what each house of First becomes by a way for each step, as
// Becomes and After say it, or false if a change can't be made.
func fates(s api.Story, ways []int) (map[api.Place][]api.Place, api.Plan, bool) {
	now, fate := s.First, map[api.Place][]api.Place{}
	for _, h := range housesOf(s.First) {
		fate[h] = []api.Place{h}
	}
	for i, way := range ways {
		c := s.Steps[i].Ways[way]
		next, e := street.After(now, c)
		if e != api.OK {
			return nil, api.Plan{}, false
		}
		for h, l := range fate {
			var m []api.Place
			for _, x := range l {
				after, _ := street.Becomes(now, c, x)
				m = append(m, after...)
			}
			slices.SortFunc(m, comparePlaces)
			fate[h] = m
		}
		now = next
	}
	return fate, now, true
}

// past is a truth as the tests find it.
type past struct {
	ways []int
	end  api.Plan
	fate map[api.Place][]api.Place
}

// pasts returns all truths of a story: all choices of ways are tried.
func pasts(s api.Story) []past {
	choices := [][]int{nil}
	for _, step := range s.Steps {
		var longer [][]int
		for _, l := range choices {
			for i := range step.Ways {
				longer = append(longer, append(slices.Clone(l), i))
			}
		}
		choices = longer
	}
	var all []past
	for _, ways := range choices {
		fate, end, ok := fates(s, ways)
		for _, f := range s.Facts {
			ok = ok && slices.Contains(fate[f.From], f.To)
		}
		if ok {
			all = append(all, past{ways, end, fate})
		}
	}
	return all
}

// mustBe fails if an error is not the one that is due.
func mustBe(t *testing.T, what string, e, want api.Errno) {
	t.Helper()
	if e != want {
		t.Errorf("%s: error %d, want %d", what, e, want)
	}
}
