package lodge_test

import (
	"reflect"
	"slices"
	"strconv"
	"strings"
	"testing"

	"wayzgoose/api"
	"wayzgoose/name"
	"wayzgoose/street"
)

// plate returns the plate that a text such as 2a is.
func plate(text string) api.Plate {
	number := strings.TrimRight(text, "abcdefg")
	x := api.Plate{}
	x.Number, _ = strconv.Atoi(number)
	if len(number) < len(text) {
		x.Letter = int(text[len(number)]-'a') + 1
	}
	return x
}

// town returns the plan that a text such as "1 2a 5|1 2|" is: its streets, with
// a stroke between each two.
func town(text string) api.Plan {
	p := api.Plan{}
	for _, row := range strings.Split(text, "|") {
		var l []api.Plate
		for _, word := range strings.Fields(row) {
			l = append(l, plate(word))
		}
		p.Streets = append(p.Streets, l)
	}
	return p
}

// at returns the place that a text such as 0/2a is.
func at(text string) api.Place {
	row, x, _ := strings.Cut(text, "/")
	n, _ := strconv.Atoi(row)
	return api.Place{Street: n, Plate: plate(x)}
}

// change returns the change that a text such as these is: turn 0, swap 0, count
// 0, join 1 0, divide 0/2, fell 0/2, court 0 2 1 4a.
func change(text string) api.Change {
	words := strings.Fields(text)
	kinds := []string{"", "turn", "swap", "count", "join", "divide", "fell", "court"}
	c := api.Change{Kind: slices.Index(kinds, words[0])}
	if c.Kind == api.ChangeDivide || c.Kind == api.ChangeFell {
		h := at(words[1])
		c.Street, c.From = h.Street, h.Plate
		return c
	}
	c.Street, _ = strconv.Atoi(words[1])
	if len(words) > 2 {
		c.Other, _ = strconv.Atoi(words[2])
	}
	if len(words) > 4 {
		c.From, c.To = plate(words[3]), plate(words[4])
	}
	return c
}

// story returns a story: its plan, its steps with a semicolon between each two
// and a comma between each two ways, and its facts, such as "0/2=0/3 0/1=1/1".
func story(first, steps, facts string) api.Story {
	s := api.Story{First: town(first)}
	for _, step := range strings.Split(steps, ";") {
		var ways []api.Change
		for _, way := range strings.Split(step, ",") {
			if strings.TrimSpace(way) != "" {
				ways = append(ways, change(way))
			}
		}
		if len(ways) > 0 {
			s.Steps = append(s.Steps, api.Step{Ways: ways})
		}
	}
	for _, word := range strings.Fields(facts) {
		from, to, _ := strings.Cut(word, "=")
		s.Facts = append(s.Facts, api.Fact{From: at(from), To: at(to)})
	}
	return s
}

// entry returns the entry that a text such as these is: anna 0/1 2, anna late
// 0/1 0 3.
func entry(text string) api.Entry {
	words := strings.Fields(text)
	x := api.Entry{Name: words[0]}
	if words[1] == "late" {
		x.Late = true
		words = words[1:]
	}
	x.House = at(words[1])
	x.Low, _ = strconv.Atoi(words[2])
	x.High, _ = strconv.Atoi(words[len(words)-1])
	return x
}

// entries returns entries with a comma between each two.
func entries(text string) []api.Entry {
	var l []api.Entry
	for _, word := range strings.Split(text, ",") {
		if strings.TrimSpace(word) != "" {
			l = append(l, entry(word))
		}
	}
	return l
}

// rules returns rules such as "ph=f y=i e=".
func rules(text string) []api.Rule {
	var l []api.Rule
	for _, word := range strings.Fields(text) {
		from, to, _ := strings.Cut(word, "=")
		l = append(l, api.Rule{From: from, To: to})
	}
	return l
}

// lodging returns a lodging without rules whose story has no step.
func lodging(first, people string, days, stay int, told string) api.Lodging {
	return api.Lodging{
		Story: story(first, "", ""), People: strings.Fields(people),
		Days: days, Stay: stay, Entries: entries(told),
	}
}

// withSteps returns a lodging whose story has steps and facts.
func withSteps(l api.Lodging, steps, facts string) api.Lodging {
	plan := l.Story.First
	l.Story = story("", steps, facts)
	l.Story.First = plan
	return l
}

// withRules returns a lodging that has rules.
func withRules(l api.Lodging, text string) api.Lodging {
	l.Rules = rules(text)
	return l
}

// withEntries returns a lodging that has just some entries.
func withEntries(l api.Lodging, told ...api.Entry) api.Lodging {
	l.Entries = told
	return l
}

// exampleL returns the lodging L of the chapter's examples, with some entries
// more.
func exampleL(more string) api.Lodging {
	l := lodging("1 2", "anna ben", 2, 1, "anna 0/1 0, ben late 0/1 1,"+more)
	return withSteps(l, "turn 0, swap 0", "")
}

// clone returns a lodging that shares no memory with l.
func clone(l api.Lodging) api.Lodging {
	m := l
	m.Story = api.Story{Facts: slices.Clone(l.Story.Facts)}
	for _, row := range l.Story.First.Streets {
		m.Story.First.Streets = append(m.Story.First.Streets, slices.Clone(row))
	}
	for _, step := range l.Story.Steps {
		m.Story.Steps = append(m.Story.Steps, api.Step{Ways: slices.Clone(step.Ways)})
	}
	m.People, m.Rules, m.Entries = slices.Clone(l.People), slices.Clone(l.Rules), slices.Clone(l.Entries)
	return m
}

// same reports whether two lodgings are the same, nil and empty slices too.
func same(l, m api.Lodging) bool {
	ways := func(a, b api.Step) bool { return slices.Equal(a.Ways, b.Ways) }
	return slices.EqualFunc(l.Story.First.Streets, m.Story.First.Streets, slices.Equal[[]api.Plate]) &&
		slices.EqualFunc(l.Story.Steps, m.Story.Steps, ways) && slices.Equal(l.Story.Facts, m.Story.Facts) &&
		slices.Equal(l.People, m.People) && slices.Equal(l.Rules, m.Rules) &&
		l.Days == m.Days && l.Stay == m.Stay && slices.Equal(l.Entries, m.Entries)
}

// homesOf returns the homes of a lodging.
func homesOf(l api.Lodging) []api.Place {
	var homes []api.Place
	for i, row := range l.Story.First.Streets {
		for _, x := range row {
			homes = append(homes, api.Place{Street: i, Plate: x})
		}
	}
	return homes
}

// fates returns what each home becomes by a way for each step, as Becomes and
// After say it, or false if a change can't be made or a fact is not so.
func fates(s api.Story, homes []api.Place, ways []int) ([][]api.Place, bool) {
	now := s.First
	fate := make([][]api.Place, len(homes))
	for i, h := range homes {
		fate[i] = []api.Place{h}
	}
	for i, way := range ways {
		c := s.Steps[i].Ways[way]
		next, e := street.After(now, c)
		if e != api.OK {
			return nil, false
		}
		for j, l := range fate {
			fate[j] = nil
			for _, x := range l {
				after, _ := street.Becomes(now, c, x)
				fate[j] = append(fate[j], after...)
			}
		}
		now = next
	}
	for _, f := range s.Facts {
		if !slices.Contains(fate[slices.Index(homes, f.From)], f.To) {
			return nil, false
		}
	}
	return fate, true
}

// lists returns all lists of n numbers from low on, each one below the number
// that most has at its index, in lexicographic order.
func lists(low int, most []int) [][]int {
	all := [][]int{nil}
	for _, n := range most {
		var longer [][]int
		for _, l := range all {
			for x := low; x < n; x++ {
				longer = append(longer, append(slices.Clone(l), x))
			}
		}
		all = longer
	}
	return all
}

// isPossible reports whether a life is possible: its stays are looked at one by
// one.
func isPossible(life []int, stay int) bool {
	for from := range life {
		for to := from; to < len(life); to++ {
			stays := life[from] != -1
			for day := from; day <= to; day++ {
				stays = stays && life[day] == life[from]
			}
			inside := from > 0 && to < len(life)-1
			if stays && inside && life[from-1] != life[from] && life[to+1] != life[from] && to-from+1 < stay {
				return false
			}
		}
	}
	return true
}

// possibleLives returns all lives that are possible with some homes.
func possibleLives(l api.Lodging) [][]int {
	all := lists(-1, slices.Repeat([]int{len(homesOf(l))}, l.Days))
	return slices.DeleteFunc(all, func(life []int) bool { return !isPossible(life, l.Stay) })
}

// meet reports whether two lives have the same home on a day.
func meet(a, b []int) bool {
	for day, home := range a {
		if home != -1 && home == b[day] {
			return true
		}
	}
	return false
}

// livesOf returns all possible lives of all people.
func livesOf(l api.Lodging) [][][]int {
	one := possibleLives(l)
	all := [][][]int{nil}
	for range l.People {
		var longer [][][]int
		for _, lives := range all {
			for _, life := range one {
				if !slices.ContainsFunc(lives, func(other []int) bool { return meet(life, other) }) {
					longer = append(longer, append(slices.Clone(lives), life))
				}
			}
		}
		all = longer
	}
	return all
}

// truth is a truth as the tests find it, the home of each entry in it, -1 if
// there is none, and whose names fit each entry.
type truth struct {
	ways   []int
	lives  [][]int
	houses []int
	fits   [][]bool
}

// pasts returns all truths of the story of a lodging, without lives.
func pasts(l api.Lodging) []truth {
	var most []int
	for _, step := range l.Story.Steps {
		most = append(most, len(step.Ways))
	}
	var all []truth
	homes, fitting := homesOf(l), fitting(l)
	for _, ways := range lists(0, most) {
		fate, ok := fates(l.Story, homes, ways)
		if !ok {
			continue
		}
		t := truth{ways: ways, fits: fitting}
		for _, x := range l.Entries {
			house := slices.Index(homes, x.House)
			if x.Late {
				house = slices.IndexFunc(fate, func(m []api.Place) bool { return slices.Contains(m, x.House) })
			}
			t.houses = append(t.houses, house)
		}
		all = append(all, t)
	}
	return all
}

func keyOf(s string) string {
	key, _ := name.Key(s)
	return key
}

// fits reports whether the name of a person can be that of an entry.
func fits(l api.Lodging, person int, x api.Entry) bool {
	_, e := name.Uses(l.Rules, l.People[person], x.Name)
	return e == api.OK
}

// fitting returns for each entry and each person whether the name fits.
func fitting(l api.Lodging) [][]bool {
	var all [][]bool
	for _, x := range l.Entries {
		var row []bool
		for person := range l.People {
			row = append(row, fits(l, person, x))
		}
		all = append(all, row)
	}
	return all
}

// isTold reports whether an entry can be told of a person in a truth.
func (t truth) isTold(l api.Lodging, entry, person int) bool {
	x := l.Entries[entry]
	for day := x.Low; day <= x.High; day++ {
		if home := t.lives[person][day]; home != -1 && home == t.houses[entry] && t.fits[entry][person] {
			return true
		}
	}
	return false
}

// isTrue reports whether an entry is true in a truth.
func (t truth) isTrue(l api.Lodging, entry int) bool {
	for person := range l.People {
		if t.isTold(l, entry, person) {
			return true
		}
	}
	return false
}

// truthsWith returns all truths of a lodging that has just the entries with
// these indices: all lives are gone through in all truths of the story.
func truthsWith(l api.Lodging, told []int) []truth {
	var all []truth
	past := pasts(l)
	for _, lives := range livesOf(l) {
		for _, t := range past {
			t.lives = lives
			if !slices.ContainsFunc(told, func(i int) bool { return !t.isTrue(l, i) }) {
				all = append(all, t)
			}
		}
	}
	return all
}

func truthsOf(l api.Lodging) []truth { return truthsWith(l, upTo(len(l.Entries))) }

// upTo returns all numbers below n.
func upTo(n int) []int {
	var l []int
	for i := range n {
		l = append(l, i)
	}
	return l
}

// subsets returns all lists of numbers below n, ascending: those with fewer
// numbers first, of as many the ones that come before in lexicographic order.
func subsets(n int) [][]int {
	all := [][]int{nil}
	for i := 0; i < len(all); i++ {
		from := 0
		if l := all[i]; len(l) > 0 {
			from = l[len(l)-1] + 1
		}
		for x := from; x < n; x++ {
			all = append(all, append(slices.Clone(all[i]), x))
		}
	}
	return all
}

// without returns all numbers below n that are not in l.
func without(n int, l []int) []int {
	return slices.DeleteFunc(upTo(n), func(x int) bool { return slices.Contains(l, x) })
}

// mustBe fails if an error is not the one that is due.
func mustBe(t *testing.T, what string, e, want api.Errno) {
	t.Helper()
	if e != want {
		t.Errorf("%s: error %d, want %d", what, e, want)
	}
}

// isZero reports whether a value is the zero value, or an empty slice.
func isZero(x any) bool {
	v := reflect.ValueOf(x)
	return v.IsZero() || v.Kind() == reflect.Slice && v.Len() == 0
}
