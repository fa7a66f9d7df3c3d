package lodge_test

import (
	"slices"
	"testing"

	"wayzgoose/api"
	"wayzgoose/lodge"
)

// spoiler makes a valid lodging one that has an error.
type spoiler struct {
	what string
	e    api.Errno
	do   func(l *api.Lodging)
}

// spoilers returns an error of each kind, in the order in which they are named;
// each one leaves the errors of those behind it as they are.
func spoilers() []spoiler {
	return []spoiler{
		{"four steps", api.ErrFull, func(l *api.Lodging) { l.Story.Steps = make([]api.Step, 4) }},
		{"a step without ways", api.ErrShort, func(l *api.Lodging) { l.Story.Steps = slices.Insert(slices.Clone(l.Story.Steps), 0, api.Step{}) }},
		{"a kind that there is not", api.ErrKind, func(l *api.Lodging) {
			l.Story.Steps = append(slices.Clone(l.Story.Steps), api.Step{Ways: []api.Change{{Kind: 8}}})
		}},
		{"a fact of no house", api.ErrNoSuch, func(l *api.Lodging) { l.Story.Facts = []api.Fact{{From: at("0/9"), To: at("0/1")}} }},
		{"no truth", api.ErrNone, func(l *api.Lodging) {
			l.Story.Steps = append(slices.Clone(l.Story.Steps), story("", "join 0 0", "").Steps...)
		}},
		{"five truths", api.ErrFull, func(l *api.Lodging) {
			l.Story.Steps = story("", "turn 0, swap 0, turn 0; turn 0, swap 0", "").Steps
		}},
		{"no people", api.ErrShort, func(l *api.Lodging) { l.People = nil }},
		{"four people", api.ErrFull, func(l *api.Lodging) { l.People = append(slices.Clone(l.People), "x", "y", "z") }},
		{"a long name", api.ErrLong, func(l *api.Lodging) { l.People = []string{l.People[0], "chadwik"} }},
		{"no home", api.ErrShort, func(l *api.Lodging) { l.Story = story("|", "", "") }},
		{"seven homes", api.ErrFull, func(l *api.Lodging) { l.Story.First = town("1 2 3 4|5 6 7") }},
		{"a rule for itself", api.ErrForm, func(l *api.Lodging) { l.Rules = rules("a=a") }},
		{"no day", api.ErrRange, func(l *api.Lodging) { l.Days = 0 }},
		{"six entries", api.ErrFull, func(l *api.Lodging) { l.Entries = slices.Repeat(l.Entries[:1], 6) }},
		{"an entry of nobody", api.ErrShort, func(l *api.Lodging) { l.Entries[1].Name = "" }},
	}
}

// TestCheck is P5.1: the errors of a lodging.
func TestCheck(t *testing.T) {
	if e := lodge.Check(exampleL("")); e != api.OK {
		t.Errorf("L: error %d", e)
	}
	for _, s := range spoilers() {
		l := exampleL("")
		s.do(&l)
		mustBe(t, s.what, lodge.Check(l), s.e)
	}
}

// TestCheckOrder is R1: of two errors the one that is named first is returned.
func TestCheckOrder(t *testing.T) {
	all := spoilers()
	for i, first := range all {
		for _, second := range all[i+1:] {
			l := exampleL("")
			second.do(&l)
			first.do(&l)
			mustBe(t, first.what+", "+second.what, lodge.Check(l), first.e)
		}
	}
}

// TestCheckLimits is P5.1: what is just allowed, and what just is not.
func TestCheckLimits(t *testing.T) {
	four := "turn 0, swap 0; turn 0, swap 0"
	plain := lodging("1 2", "anna ben", 2, 1, "anna 0/1 0")
	for _, c := range []struct {
		what string
		l    api.Lodging
		want api.Errno
	}{
		{"four truths", withSteps(plain, four, ""), api.OK},
		{"eight truths", withSteps(plain, four+"; turn 0, swap 0", ""), api.ErrFull},
		{"eight choices, four truths", withSteps(plain, four+"; turn 0, fell 0/9", ""), api.OK},
		{"nine choices, four truths by a fact", withSteps(plain, "turn 0, turn 0, swap 0; turn 0, turn 0, swap 0", "0/1=0/2"), api.OK},
		{"nine choices, five truths by a fact", withSteps(plain, "turn 0, turn 0, swap 0; turn 0, turn 0, swap 0", "0/1=0/1"), api.ErrFull},
		{"a change that can't be made", withSteps(plain, "join 0 0", ""), api.ErrNone},
		{"a plan with an error", lodging("2 1", "", 0, 0, ""), api.ErrOrder},
		{"no street", api.Lodging{}, api.ErrShort},
		{"three people", lodging("1 2", "anna ben cyd", 1, 1, ""), api.OK},
		{"four people", lodging("1", "anna ben cyd dora", 1, 1, ""), api.ErrFull},
		{"the same name", lodging("1", "anna ben anna", 1, 1, ""), api.ErrRepeated},
		{"the same key", lodging("1", "anna ANNA", 1, 1, ""), api.ErrRepeated},
		{"the same key of other letters", lodging("1", "ben CAD chad", 1, 1, ""), api.ErrRepeated},
		{"a key that is not the name of another", lodging("1", "CAD cad", 1, 1, ""), api.OK},
		{"names that rules make the same", withRules(lodging("1", "smith smyth", 1, 1, ""), "y=i"), api.OK},
		{"the same name before a wrong one", lodging("1", "anna anna Anna", 1, 1, ""), api.ErrRepeated},
		{"a wrong name before the same one", lodging("1", "anna Anna anna", 1, 1, ""), api.ErrForm},
		{"a name without letters", api.Lodging{Story: story("1", "", ""), People: []string{"anna", ""}}, api.ErrShort},
		{"no home", lodging("||", "anna", 1, 1, ""), api.ErrShort},
		{"one home", lodging("|1|", "anna", 1, 1, ""), api.OK},
		{"six homes", lodging("1 2|3 4|5 6", "anna", 1, 1, ""), api.OK},
		{"seven homes", lodging("1 2 7|3 4|5 6", "anna", 1, 1, ""), api.ErrFull},
		{"three homes of two", lodging("1 2|3", "anna ben", 1, 1, ""), api.OK},
		{"four homes of two", lodging("1 2|3 4", "anna ben", 1, 1, ""), api.ErrFull},
		{"two homes of three", lodging("1|3", "anna ben cyd", 1, 1, ""), api.OK},
		{"three homes of three", lodging("1|3 4", "anna ben cyd", 1, 1, ""), api.ErrFull},
		{"four rules", withRules(plain, "a=b a= aa=a bb=aa"), api.OK},
		{"five rules", withRules(plain, "a=b a= aa=a bb=aa c="), api.ErrFull},
		{"a rule of capitals", withRules(plain, "a=B"), api.ErrForm},
		{"four days", lodging("1", "anna", 4, 4, ""), api.OK},
		{"five days", lodging("1", "anna", 5, 1, ""), api.ErrRange},
		{"days below 0", lodging("1", "anna", -1, 1, ""), api.ErrRange},
		{"no stay", lodging("1", "anna", 2, 0, ""), api.ErrRange},
		{"a stay of all days", lodging("1", "anna", 2, 2, ""), api.OK},
		{"a stay of more days", lodging("1", "anna", 2, 3, ""), api.ErrRange},
		{"three days and Stay 4", lodging("1", "anna", 3, 4, ""), api.ErrRange},
		{"five entries", withEntries(plain, slices.Repeat(plain.Entries, 5)...), api.OK},
		{"six entries", withEntries(plain, slices.Repeat(plain.Entries, 6)...), api.ErrFull},
		{"no truth of the lodging", lodging("1", "anna", 1, 1, "ben 0/1 0"), api.OK},
	} {
		mustBe(t, c.what, lodge.Check(c.l), c.want)
	}
}

// TestEntryErrors is P5.1: the errors of an entry, in their order.
func TestEntryErrors(t *testing.T) {
	for _, c := range []struct {
		x    api.Entry
		want api.Errno
	}{
		{entry("BEN 1/2a 0 2"), api.OK},
		{entry("dora 0/1 0"), api.OK},
		{entry("chadwik 0/9 9"), api.ErrLong},
		{entry("Anna 0/9 9"), api.ErrForm},
		{api.Entry{House: at("0/9"), Low: 9}, api.ErrShort},
		{entry("ben 0/3 9"), api.ErrNoSuch},
		{entry("ben 1/1 0"), api.ErrNoSuch},
		{entry("ben 1/2 0"), api.ErrNoSuch},
		{entry("ben 2/1 0"), api.ErrNoSuch},
		{api.Entry{Name: "ben", House: api.Place{Street: -1}}, api.ErrNoSuch},
		{entry("ben 0/0 0"), api.ErrNoSuch},
		{entry("ben late 0/3 0"), api.OK},
		{entry("ben late 2/40d 0"), api.OK},
		{entry("ben late 3/41 9"), api.ErrNoSuch},
		{api.Entry{Name: "ben", Late: true, House: api.Place{Street: -1}, Low: 9}, api.ErrNoSuch},
		{entry("ben late 0/41 9"), api.ErrRange},
		{entry("ben late 0/0 0"), api.ErrRange},
		{entry("ben late 0/1e 0"), api.ErrRange},
		{api.Entry{Name: "ben", Late: true, House: api.Place{Plate: api.Plate{Number: 1, Letter: -1}}}, api.ErrRange},
		{api.Entry{Name: "ben", Late: true, House: api.Place{Plate: api.Plate{Number: -1}}}, api.ErrRange},
		{entry("ben 0/1 0 3"), api.ErrRange},
		{entry("ben 0/1 -1 0"), api.ErrRange},
		{entry("ben 0/1 3 0"), api.ErrRange},
		{entry("ben 0/1 0 -1"), api.ErrRange},
		{entry("ben 0/1 3 2"), api.ErrRange},
		{entry("ben 0/1 2 1"), api.ErrOrder},
		{entry("ben late 0/1 1 0"), api.ErrOrder},
		{entry("ben 0/1 2 2"), api.OK},
	} {
		l := lodging("1|2a|", "anna ben cyd", 3, 1, "anna 0/1 0")
		if _, e := lodge.Add(l, c.x); e != c.want && (c.want != api.OK || e != api.ErrClash) {
			t.Errorf("Add of %v: error %d, want %d", c.x, e, c.want)
		}
		l.Entries = append(l.Entries, c.x, api.Entry{})
		want := c.want
		if want == api.OK {
			want = api.ErrShort
		}
		mustBe(t, "with "+c.x.Name, lodge.Check(l), want)
		mustBe(t, "alone", lodge.Check(withEntries(l, c.x)), c.want)
	}
	l := withSteps(lodging("1", "anna", 1, 1, ""), "divide 0/1", "")
	mustBe(t, "a house of the last plan alone", lodge.Check(withEntries(l, entry("anna 0/1a 0"))), api.ErrNoSuch)
	mustBe(t, "late", lodge.Check(withEntries(l, entry("anna late 0/1a 0"))), api.OK)
}

// allErrors returns the errors of all functions, with numbers that there are
// not.
func allErrors(l api.Lodging) []api.Errno {
	var all []api.Errno
	add := func(e api.Errno) { all = append(all, e) }
	_, e := lodge.Where(l, 9, 9)
	add(e)
	_, e = lodge.Who(l, 9, 9)
	add(e)
	_, e = lodge.Verdict(l, 9, -2, 9)
	add(e)
	_, e = lodge.Moves(l, 9)
	add(e)
	_, e = lodge.Since(l, 9, -1)
	add(e)
	_, e = lodge.Follows(l, -1, 9, 9)
	add(e)
	_, e = lodge.Whom(l, 9)
	add(e)
	_, e = lodge.Truths(l)
	add(e)
	_, e = lodge.Wrong(l)
	add(e)
	_, e = lodge.Clash(l)
	add(e)
	_, e = lodge.Add(l, api.Entry{Name: "Anna"})
	add(e)
	_, _, _, e = lodge.Ask(l)
	add(e)
	return all
}

// TestCheckFirst is P5.1 to P5.6: the error of Check comes before all others.
func TestCheckFirst(t *testing.T) {
	for _, s := range spoilers() {
		l := exampleL("")
		s.do(&l)
		for i, e := range allErrors(l) {
			if e != s.e {
				t.Errorf("%s: function %d: error %d, want %d", s.what, i, e, s.e)
			}
		}
	}
	due := slices.Concat(slices.Repeat([]api.Errno{api.ErrNoSuch}, 7), []api.Errno{api.OK, api.OK, api.ErrNone, api.ErrForm, api.OK})
	if all := allErrors(exampleL("")); !slices.Equal(all, due) {
		t.Errorf("L: %v, want %v", all, due)
	}
	// That there is no such number comes before that there is no truth.
	due = slices.Concat(slices.Repeat([]api.Errno{api.ErrNoSuch}, 7), []api.Errno{api.OK, api.OK, api.OK, api.ErrForm, api.ErrNone})
	if all := allErrors(exampleL("cyd 0/1 0")); !slices.Equal(all, due) {
		t.Errorf("L without a truth: %v, want %v", all, due)
	}
}
