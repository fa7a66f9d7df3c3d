package part_test

import (
	"testing"

	"wayzgoose/api"
	"wayzgoose/part"
)

// spoiler makes a valid volume one that has an error.
type spoiler struct {
	what string
	e    api.Errno
	do   func(v *api.Volume)
}

// spoilers returns errors of a volume, in the order in which they are named;
// each one leaves the errors of those behind it as they are.
func spoilers() []spoiler {
	return []spoiler{
		{"no street", api.ErrRange, func(v *api.Volume) { v.Streets = 0 }},
		{"no width", api.ErrRange, func(v *api.Volume) { v.Width = 0 }},
		{"two rows", api.ErrRange, func(v *api.Volume) { v.Rows = 2 }},
		{"seven classes", api.ErrFull, func(v *api.Volume) { v.Trades.Classes = make([]api.Class, 7) }},
		{"a heading of no class", api.ErrNoSuch, func(v *api.Volume) { v.Trades.Heads[0].Class = 9 }},
		{"headings not in order", api.ErrOrder, func(v *api.Volume) { v.Trades.Heads[5].Word = "a" }},
		{"five rules", api.ErrFull, func(v *api.Volume) { v.Rules = make([]api.Rule, 5) }},
		{"a rule for itself", api.ErrForm, func(v *api.Volume) { v.Rules[0] = api.Rule{From: "a", To: "a"} }},
		{"seven people", api.ErrFull, func(v *api.Volume) { v.People = append(v.People, v.People...)[:7] }},
		{"a person with no name", api.ErrShort, func(v *api.Volume) { v.People[0].Name = "" }},
	}
}

// personSpoilers returns errors of a person, in the order in which they are
// named; each one leaves the errors of those behind it as they are.
func personSpoilers() []struct {
	what string
	e    api.Errno
	do   func(p *api.Person)
} {
	return []struct {
		what string
		e    api.Errno
		do   func(p *api.Person)
	}{
		{"a long name", api.ErrLong, func(p *api.Person) { p.Name = "chadwik" }},
		{"no such street", api.ErrNoSuch, func(p *api.Person) { p.Street = 2 }},
		{"the number 0", api.ErrRange, func(p *api.Person) { p.Number = 0 }},
		{"no such heading", api.ErrNoSuch, func(p *api.Person) { p.Head = 6 }},
		{"a heading that is no trade", api.ErrKind, func(p *api.Person) {
			if p.Head != 6 {
				p.Head = 1
			}
		}},
	}
}

// TestCheckExamples is P6.1: the examples of Check.
func TestCheckExamples(t *testing.T) {
	mustBe(t, "V", part.Check(exampleV()), api.OK)
	for _, c := range []struct {
		what string
		e    api.Errno
		do   func(v *api.Volume)
	}{
		{"2 rows", api.ErrRange, func(v *api.Volume) { v.Rows = 2 }},
		{"bonnets as a trade", api.ErrKind, func(v *api.Volume) { v.People[2].Head = 1 }},
		{"smith at 41", api.ErrRange, func(v *api.Volume) { v.People[0].Number = 41 }},
	} {
		mustBe(t, c.what, part.Check(changed(c.do)), c.e)
	}
}

// TestCheck is P6.1 and R1: the errors of a volume, of two of them the one that
// is named first.
func TestCheck(t *testing.T) {
	all := spoilers()
	for i, first := range all {
		mustBe(t, first.what, part.Check(changed(first.do)), first.e)
		for _, second := range all[i+1:] {
			v := changed(second.do)
			first.do(&v)
			mustBe(t, first.what+", "+second.what, part.Check(v), first.e)
		}
	}
}

// TestCheckPerson is P6.1 and R1: the errors of a person, of two of them the one
// that is named first; all that is said of one person is checked before the next
// one is.
func TestCheckPerson(t *testing.T) {
	all := personSpoilers()
	for i, first := range all {
		for n := range 4 {
			v := changed(func(v *api.Volume) { first.do(&v.People[n]) })
			mustBe(t, first.what, part.Check(v), first.e)
		}
		for j, second := range all {
			v := exampleV()
			first.do(&v.People[2])
			second.do(&v.People[3])
			mustBe(t, first.what+", then "+second.what, part.Check(v), first.e)
			if j > i {
				v = exampleV()
				second.do(&v.People[1])
				first.do(&v.People[1])
				mustBe(t, first.what+" and "+second.what, part.Check(v), first.e)
			}
		}
	}
}

// TestCheckLimits is P6.1: what is just allowed, and what just is not.
func TestCheckLimits(t *testing.T) {
	for _, c := range []struct {
		what string
		e    api.Errno
		do   func(v *api.Volume)
	}{
		{"nothing", api.OK, func(v *api.Volume) { *v = api.Volume{Streets: 1, Width: 1, Rows: 3} }},
		{"one street", api.ErrNoSuch, func(v *api.Volume) { v.Streets = 1 }},
		{"one street that all live in", api.OK, func(v *api.Volume) { v.Streets, v.People[2].Street = 1, 0 }},
		{"three streets", api.OK, func(v *api.Volume) { v.Streets, v.People[2].Street = 3, 2 }},
		{"four streets", api.ErrRange, func(v *api.Volume) { v.Streets = 4 }},
		{"less than no street", api.ErrRange, func(v *api.Volume) { v.Streets = -1 }},
		{"the width 1", api.OK, func(v *api.Volume) { v.Width = 1 }},
		{"the width 13", api.OK, func(v *api.Volume) { v.Width = 13 }},
		{"the width 14", api.ErrRange, func(v *api.Volume) { v.Width = 14 }},
		{"the width -1", api.ErrRange, func(v *api.Volume) { v.Width = -1 }},
		{"3 rows", api.OK, func(v *api.Volume) { v.Rows = 3 }},
		{"8 rows", api.OK, func(v *api.Volume) { v.Rows = 8 }},
		{"9 rows", api.ErrRange, func(v *api.Volume) { v.Rows = 9 }},
		{"trades that are left out", api.ErrNoSuch, func(v *api.Volume) { v.Trades = api.Trades{} }},
		{"four rules", api.OK, func(v *api.Volume) { v.Rules = rules("a=b c=d e=f g=") }},
		{"a rule of no piece", api.ErrForm, func(v *api.Volume) { v.Rules[2] = api.Rule{To: "a"} }},
		{"six people", api.OK, func(v *api.Volume) { v.People = append(v.People, v.People[:2]...) }},
		{"no people", api.OK, func(v *api.Volume) { v.People = nil }},
		{"a name of both alphabets", api.ErrForm, func(v *api.Volume) { v.People[2].Name = "CaD" }},
		{"a name with no letter", api.ErrForm, func(v *api.Volume) { v.People[2].Name = "HAT" }},
		{"a name of six letters", api.OK, func(v *api.Volume) { v.People[2].Name = "CCCCCC" }},
		{"the street -1", api.ErrNoSuch, func(v *api.Volume) { v.People[3].Street = -1 }},
		{"the number 1", api.OK, func(v *api.Volume) { v.People[3].Number = 1 }},
		{"the number 40", api.OK, func(v *api.Volume) { v.People[3].Number = 40 }},
		{"the number -1", api.ErrRange, func(v *api.Volume) { v.People[3].Number = -1 }},
		{"the heading -2", api.ErrNoSuch, func(v *api.Volume) { v.People[3].Head = -2 }},
		{"the last trade", api.OK, func(v *api.Volume) { v.People[3].Head = 4 }},
		{"a pointer", api.ErrKind, func(v *api.Volume) { v.People[3].Head = 5 }},
		{"a list of references", api.ErrKind, func(v *api.Volume) {
			v.Trades.Heads[4] = api.Head{Word: "mercer", Class: -1, See: -1, Also: []int{3}}
			v.People[3].Head = 4
		}},
		{"a trade with references", api.OK, func(v *api.Volume) { v.People[3].Head = 2 }},
	} {
		mustBe(t, c.what, part.Check(changed(c.do)), c.e)
	}
}

// TestCheckFirst is P6.1: all functions return Check's error before any other.
func TestCheckFirst(t *testing.T) {
	bad := exampleO()
	bad.ByStreet[0].Number = 0
	for _, s := range spoilers() {
		v := changed(s.do)
		for i, r := range (args{v: v, p: bad, part: 9, person: 9, class: 9, beginning: "b"}).call() {
			if r.e != s.e {
				t.Errorf("%s, function %d: error %d, want %d", s.what, i, r.e, s.e)
			}
		}
	}
}

// TestCheckParts is P6.1 and R1: the errors of old parts, part by part, and line
// by line.
func TestCheckParts(t *testing.T) {
	mustBe(t, "O", part.CheckParts(exampleV(), exampleO()), api.OK)
	mustBe(t, "no lines", part.CheckParts(exampleV(), api.Parts{}), api.OK)
	for at := range parts {
		p := exampleO()
		l := list(&p, at)
		for len(*l) < 4 {
			*l = append(*l, (*l)[0])
		}
		mustBe(t, "four lines", part.CheckParts(exampleV(), p), api.OK)
		*l = append(*l, api.Person{})
		mustBe(t, "five lines", part.CheckParts(exampleV(), p), api.ErrFull)
	}
	for at := range parts {
		for n := range 3 {
			for _, s := range personSpoilers() {
				p := exampleO()
				s.do(&(*list(&p, at))[n])
				mustBe(t, s.what, part.CheckParts(exampleV(), p), s.e)
			}
		}
	}
	p := exampleO()
	p.ByTrade[1].Head = -1
	mustBe(t, "no trade", part.CheckParts(exampleV(), p), api.ErrKind)
}

// TestCheckPartsOrder is P6.1 and R1: of two errors of old parts the one of the
// part, and of the line, that comes first.
func TestCheckPartsOrder(t *testing.T) {
	full := func(l *[]api.Person) { *l = make([]api.Person, 5) }
	wrong := func(l *[]api.Person) { (*l)[1].Number = 41 }
	later := func(l *[]api.Person) { (*l)[2].Name = "" }
	for _, c := range []struct {
		what string
		do   [parts]func(l *[]api.Person)
		e    api.Errno
	}{
		{"full, wrong", [parts]func(*[]api.Person){full, wrong, nil}, api.ErrFull},
		{"wrong, full", [parts]func(*[]api.Person){wrong, full, nil}, api.ErrRange},
		{"wrong by name, full by trade", [parts]func(*[]api.Person){nil, wrong, full}, api.ErrRange},
		{"full by name, wrong by trade", [parts]func(*[]api.Person){nil, full, wrong}, api.ErrFull},
		{"wrong by street, later by name", [parts]func(*[]api.Person){wrong, later, full}, api.ErrRange},
		{"later by street, wrong by name", [parts]func(*[]api.Person){later, wrong, full}, api.ErrShort},
	} {
		p := exampleO()
		for at, do := range c.do {
			if do != nil {
				do(list(&p, at))
			}
		}
		mustBe(t, c.what, part.CheckParts(exampleV(), p), c.e)
	}
	// Line by line: what is said of a line of the part of trades is said before
	// the next one.
	p := exampleO()
	p.ByTrade[0].Head = -1
	p.ByTrade[1].Number = 0
	mustBe(t, "no trade, then no number", part.CheckParts(exampleV(), p), api.ErrKind)
	p.ByTrade[0].Number = 0
	mustBe(t, "neither number nor trade", part.CheckParts(exampleV(), p), api.ErrRange)
	for i, s := range personSpoilers() {
		p := exampleO()
		later(&p.ByName)
		s.do(&p.ByName[1])
		mustBe(t, "before a wrong line "+s.what, part.CheckParts(exampleV(), p), personSpoilers()[i].e)
	}
}

// TestPartsFirst is about the errors of all functions with old parts: those of
// the old parts come before ErrRange.
func TestPartsFirst(t *testing.T) {
	p := exampleO()
	p.ByName[1].Number = 0
	v := exampleV()
	for _, at := range []int{-1, 0, 3} {
		_, moved := part.Moved(v, p, at)
		_, _, mend := part.Mend(v, p)
		_, losses := part.Losses(v, p)
		_, same := part.Same(v, p)
		for i, e := range []api.Errno{part.CheckParts(v, p), moved, mend, losses, same} {
			if e != api.ErrRange {
				t.Errorf("function %d, part %d: error %d", i, at, e)
			}
		}
	}
	p = exampleO()
	p.ByTrade[0].Head = 9
	_, moved := part.Moved(v, p, 3)
	mustBe(t, "Moved with a heading that there is not", moved, api.ErrNoSuch)
	for _, at := range []int{-1, 3, 1 << 40} {
		_, moved := part.Moved(v, exampleO(), at)
		mustBe(t, "Moved in no part", moved, api.ErrRange)
	}
}

// TestNumbers is about the errors of a part and of a person: ErrRange comes
// before ErrNoSuch, and this before ErrKind.
func TestNumbers(t *testing.T) {
	v := exampleV()
	for _, c := range []struct {
		part, person int
		e            api.Errno
	}{
		{-1, 9, api.ErrRange}, {3, -1, api.ErrRange}, {3, 0, api.ErrRange}, {0, 0, api.OK}, {2, 3, api.OK},
		{0, -1, api.ErrNoSuch}, {1, 4, api.ErrNoSuch}, {2, 4, api.ErrNoSuch}, {2, 2, api.ErrKind},
	} {
		_, e := part.Entry(v, c.part, c.person)
		mustBe(t, "Entry", e, c.e)
		if c.e != api.OK && c.e != api.ErrRange {
			continue
		}
		_, order := part.Order(v, c.part)
		_, set := part.Set(v, c.part)
		_, pages := part.Pages(v, c.part)
		for i, e := range []api.Errno{order, set, pages} {
			if e != c.e {
				t.Errorf("function %d, part %d: error %d, want %d", i, c.part, e, c.e)
			}
		}
	}
	for _, class := range []int{-1, 4, 1 << 40} {
		_, e := part.Under(v, class)
		mustBe(t, "Under no class", e, api.ErrNoSuch)
	}
}
