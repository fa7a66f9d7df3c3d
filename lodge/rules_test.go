package lodge_test

import (
	"fmt"
	"math"
	"reflect"
	"slices"
	"strings"
	"sync"
	"testing"

	"wayzgoose/api"
	"wayzgoose/lodge"
)

// args are arguments for all functions of the package.
type args struct {
	l                                 api.Lodging
	x                                 api.Entry
	person, second, home, day, number int
}

// result is what a call returned: its error, and all else.
type result struct {
	e    api.Errno
	rest []any
}

const functions = 13

// call calls all functions.
func (a args) call() []result {
	var l []result
	add := func(e api.Errno, rest ...any) { l = append(l, result{e, rest}) }
	add(lodge.Check(a.l))
	truths, e := lodge.Truths(a.l)
	add(e, truths)
	where, e := lodge.Where(a.l, a.person, a.day)
	add(e, where)
	who, e := lodge.Who(a.l, a.home, a.day)
	add(e, who)
	verdict, e := lodge.Verdict(a.l, a.person, a.home, a.day)
	add(e, verdict)
	moves, e := lodge.Moves(a.l, a.person)
	add(e, moves)
	since, e := lodge.Since(a.l, a.person, a.home)
	add(e, since)
	follows, e := lodge.Follows(a.l, a.home, a.person, a.second)
	add(e, follows)
	whom, e := lodge.Whom(a.l, a.number)
	add(e, whom)
	wrong, e := lodge.Wrong(a.l)
	add(e, wrong)
	clash, e := lodge.Clash(a.l)
	add(e, clash)
	more, e := lodge.Add(a.l, a.x)
	add(e, more)
	person, day, left, e := lodge.Ask(a.l)
	add(e, person, day, left)
	return l
}

// args returns valid arguments.
func (d *die) args() args {
	var a args
	a.l, _ = d.told(d.throw(3) > 0)
	for len(a.l.Entries) == 0 {
		a.l, _ = d.told(false)
	}
	a.x = d.entry(a.l)
	a.person, a.second, a.home = d.throw(len(a.l.People)), d.throw(len(a.l.People)), d.throw(len(homesOf(a.l)))
	a.day, a.number = d.throw(a.l.Days), d.throw(len(a.l.Entries))
	return a
}

// clone returns arguments that share nothing with those of a, in slices that
// have more capacity than they need if it says so.
func (a args) clone(roomy bool) args {
	a.l = clone(a.l)
	if !roomy {
		return a
	}
	l := &a.l
	for i, row := range l.Story.First.Streets {
		l.Story.First.Streets[i] = slices.Grow(row, 2)
	}
	for i, step := range l.Story.Steps {
		l.Story.Steps[i].Ways = slices.Grow(step.Ways, 2)
	}
	l.Story.First.Streets = slices.Grow(l.Story.First.Streets, 2)
	l.Story.Steps, l.Story.Facts = slices.Grow(l.Story.Steps, 2), slices.Grow(l.Story.Facts, 2)
	l.People, l.Rules, l.Entries = slices.Grow(l.People, 2), slices.Grow(l.Rules, 2), slices.Grow(l.Entries, 2)
	return a
}

// full returns a lodging with all that its slices have behind their ends.
func full(l api.Lodging) api.Lodging {
	all := clone(l)
	all.Story.First.Streets = nil
	for _, row := range l.Story.First.Streets[:cap(l.Story.First.Streets)] {
		all.Story.First.Streets = append(all.Story.First.Streets, row[:cap(row)])
	}
	all.Story.Steps = nil
	for _, step := range l.Story.Steps[:cap(l.Story.Steps)] {
		all.Story.Steps = append(all.Story.Steps, api.Step{Ways: step.Ways[:cap(step.Ways)]})
	}
	all.Story.Facts = l.Story.Facts[:cap(l.Story.Facts)]
	all.People, all.Rules, all.Entries = l.People[:cap(l.People)], l.Rules[:cap(l.Rules)], l.Entries[:cap(l.Entries)]
	return all
}

// TestSameAgain is R2 and R6: a call returns the same again, whatever was called
// before, and in goroutines too.
func TestSameAgain(t *testing.T) {
	d := die{state: 2}
	var all []args
	var first [][]result
	for range 100 {
		a := d.args()
		all = append(all, a)
		first = append(first, a.call())
	}
	var wait sync.WaitGroup
	for i := range all {
		at := len(all) - 1 - i
		wait.Go(func() {
			if !reflect.DeepEqual(all[at].call(), first[at]) {
				t.Errorf("%v: another result", all[at])
			}
		})
	}
	wait.Wait()
}

// spoiled returns arguments some of which are not valid.
func (d *die) spoiled() args {
	a := d.args()
	switch d.throw(8) {
	case 0:
		all := spoilers()
		all[d.throw(len(all)-1)].do(&a.l)
	case 1:
		a.person, a.number = -1, len(a.l.Entries)
	case 2:
		a.home = len(homesOf(a.l))
	case 3:
		a.day, a.second = a.l.Days, len(a.l.People)
	case 4:
		a.x.House.Street = 3
	case 5:
		a.l.Entries = append(a.l.Entries[:len(a.l.Entries)-1:len(a.l.Entries)-1], api.Entry{Name: "zz", House: homesOf(a.l)[0]})
	}
	return a
}

// TestZeroWithErrors is R3: with an error all other results are zero values.
func TestZeroWithErrors(t *testing.T) {
	d := die{state: 3}
	met := map[int]bool{}
	for range 1000 {
		a := d.spoiled()
		for i, r := range a.call() {
			if r.e == api.OK {
				continue
			}
			met[i] = true
			for _, x := range r.rest {
				if !isZero(x) {
					t.Fatalf("%v, function %d: error %d with %v", a, i, r.e, x)
				}
			}
		}
	}
	if len(met) != functions {
		t.Errorf("errors of %d functions", len(met))
	}
}

// spoil overwrites all memory that a value of slices and structs reaches, up to
// the capacity of its slices.
func spoil(v reflect.Value) {
	switch v.Kind() {
	case reflect.Slice:
		v = v.Slice3(0, v.Cap(), v.Cap())
		for i := range v.Len() {
			spoil(v.Index(i))
		}
	case reflect.Struct:
		for i := range v.NumField() {
			spoil(v.Field(i))
		}
	case reflect.Int:
		if v.CanSet() {
			v.SetInt(-77)
		}
	case reflect.String:
		if v.CanSet() {
			v.SetString("spoiled")
		}
	}
}

// TestNothingShared is R4: no argument is changed, and no result shares memory
// with an argument, or with one of another call.
func TestNothingShared(t *testing.T) {
	d := die{state: 4}
	for range 300 {
		a := d.args()
		given, copied := a.clone(true), a.clone(true)
		results := given.call()
		if !same(full(given.l), full(copied.l)) {
			t.Fatalf("%v became %v", copied, given)
		}
		for _, r := range results {
			for _, x := range r.rest {
				spoil(reflect.ValueOf(x))
			}
		}
		if !same(full(given.l), full(copied.l)) {
			t.Fatalf("a result shares memory with an argument: %v became %v", copied, given)
		}
		if !reflect.DeepEqual(given.call(), copied.call()) {
			t.Fatalf("%v: a result shares memory with one of another call", a)
		}
	}
}

// TestResultApart is R4: the slices of the lodging of Add share no memory.
func TestResultApart(t *testing.T) {
	row := town("1 2").Streets[0]
	l := lodging("", "anna", 2, 1, "anna 0/1 0")
	l.Story.First.Streets = [][]api.Plate{row[:1], row[:1:1], row[:1]}
	ways := story("", "turn 0, swap 0", "").Steps[0].Ways
	l.Story.Steps = []api.Step{{Ways: ways}, {Ways: ways}}
	m, e := lodge.Add(l, entry("anna 0/1 1"))
	mustBe(t, "Add", e, api.OK)
	want := clone(m)
	spoil(reflect.ValueOf(m.Story.First.Streets[0]))
	spoil(reflect.ValueOf(m.Story.Steps[0].Ways))
	for i := 1; i < 3; i++ {
		if !slices.Equal(m.Story.First.Streets[i], want.Story.First.Streets[i]) {
			t.Errorf("the streets 0 and %d share memory", i)
		}
	}
	if !slices.Equal(m.Story.Steps[1].Ways, want.Story.Steps[1].Ways) {
		t.Error("the steps share memory")
	}
}

// mustBeAlike fails if any function but Add tells two lodgings apart. As a
// string a nil slice is the same as an empty one.
func mustBeAlike(t *testing.T, l, m api.Lodging) {
	t.Helper()
	results := func(l api.Lodging) string {
		var all []result
		for day := range l.Days {
			a := args{l: l, day: day, x: api.Entry{Name: "Anna"}}
			a.person, a.second, a.home, a.number = day%len(l.People), 0, day%len(homesOf(l)), day
			all = append(all, a.call()...)
		}
		return fmt.Sprint(all)
	}
	if a, b := results(l), results(m); a != b {
		t.Errorf("%v: %s; %v: %s", l, a, m, b)
	}
}

// TestEmpty is R4: nil and empty slices mean the same as arguments.
func TestEmpty(t *testing.T) {
	none := lodging("|1|", "anna", 2, 1, "")
	none.Story.First.Streets[0] = nil
	empty := clone(none)
	empty.Story.First.Streets[0], empty.Story.First.Streets[2] = []api.Plate{}, []api.Plate{}
	empty.Story.Steps, empty.Story.Facts = []api.Step{}, []api.Fact{}
	empty.Rules, empty.Entries = []api.Rule{}, []api.Entry{}
	mustBe(t, "empty slices", lodge.Check(empty), api.OK)
	mustBeAlike(t, none, empty)
	mustBe(t, "no people", lodge.Check(api.Lodging{Story: none.Story, People: []string{}}), api.ErrShort)
	m, e := lodge.Add(none, entry("anna 1/1 0"))
	n, f := lodge.Add(empty, entry("anna 1/1 0"))
	if !same(m, n) || e != api.OK || f != api.OK {
		t.Errorf("%v, error %d; %v, error %d", m, e, n, f)
	}
}

// TestAnyValue is P1 and R5: each function returns, and does not panic, whatever
// its arguments are.
func TestAnyValue(t *testing.T) {
	d := die{state: 5}
	numbers := []int{math.MinInt, -2, -1, 0, 1, 2, 3, 4, 5, 6, 7, 63, 64, math.MaxInt}
	number := func() int { return pick(&d, numbers...) }
	wild := func() string {
		return pick(&d, "", " ", "a", "Anna", "é", "\xff", "chadwik", strings.Repeat("a", 1<<10))
	}
	place := func() api.Place {
		return api.Place{Street: number(), Plate: api.Plate{Number: number(), Letter: number()}}
	}
	for range 2000 {
		a := d.args()
		a.person, a.second, a.home, a.day, a.number = number(), number(), number(), number(), number()
		x := api.Entry{Name: wild(), House: place(), Late: d.throw(2) == 0, Low: number(), High: number()}
		switch l := &a.l; d.throw(10) {
		case 0:
			l.People[0] = wild()
		case 1:
			l.Days = number()
		case 2:
			l.Stay = number()
		case 3:
			l.Entries[0] = x
		case 4:
			l.Entries[0].Low, l.Entries[0].High = number(), number()
		case 5:
			l.Entries[0].House = place()
		case 6:
			l.Rules = append(l.Rules, api.Rule{From: wild(), To: wild()})
		case 7:
			l.Story.First.Streets[0] = append(l.Story.First.Streets[0], place().Plate)
		case 8:
			c := api.Change{Kind: number(), Street: number(), Other: number(), From: place().Plate, To: place().Plate}
			l.Story.Steps = append(l.Story.Steps, api.Step{Ways: []api.Change{c}})
		case 9:
			a.x = x
		}
		a.call()
	}
	(args{}).call()
	many := lodging("1", "anna", 1, 1, "")
	(args{l: api.Lodging{Story: many.Story, People: make([]string, 1<<16)}}).call()
	(args{l: api.Lodging{Story: many.Story, People: many.People, Rules: make([]api.Rule, 1<<16)}}).call()
	(args{l: withEntries(many, make([]api.Entry, 1<<16)...)}).call()
	many.Story.First.Streets = make([][]api.Plate, 1<<16)
	(args{l: many}).call()
	many.Story.First.Streets = [][]api.Plate{make([]api.Plate, 1<<16)}
	(args{l: many}).call()
}

// TestMoved is T1: people who stay where they are are found again through all
// joinings and renumberings, whichever plates they are told by, and no two of
// them are taken for one house. Everybody is told once a day, by a plate of the
// first or of the last plan.
func TestMoved(t *testing.T) {
	d := die{state: 1}
	m := met{}
	for range 600 {
		l := api.Lodging{People: []string{"anna", "BEN"}[:1+d.throw(2)]}
		most := api.MaxCells / len(l.People)
		l.Story = d.story(len(l.People) + d.throw(most-len(l.People)+1))
		l.Days = 1 + d.throw(4/len(l.People))
		l.Stay = 1 + d.throw(l.Days)
		past := pick(&d, pasts(l)...)
		homes := homesOf(l)
		fate, _ := fates(l.Story, homes, past.ways)
		known := true
		for person := range l.People {
			for day := range l.Days {
				x := api.Entry{Name: l.People[person], House: homes[person], Low: day, High: day}
				if after := fate[person]; len(after) > 0 && d.throw(2) == 0 {
					x.Late, x.House = true, pick(&d, after...)
					known = known && len(pasts(l)) == 1
				}
				l.Entries = append(l.Entries, x)
			}
		}
		mustBeFound(t, l, known)
		if known {
			m["known"]++
		} else {
			m["in doubt"]++
		}
	}
	m.mustAll(t, 100, "known", "in doubt")
}

// mustBeFound fails unless each person is found at the home with their own
// number on all days, there alone if all is known.
func mustBeFound(t *testing.T, l api.Lodging, known bool) {
	t.Helper()
	for day := range l.Days {
		met := map[int]int{}
		for person := range l.People {
			where, e := lodge.Where(l, person, day)
			who, f := lodge.Who(l, person, day)
			if !slices.Contains(where, person) || !slices.Contains(who, person) || e != api.OK || f != api.OK {
				t.Fatalf("%v: %d is at %v on %d, error %d, and %v there, error %d", l, person, where, day, e, who, f)
			}
			if known && (len(where) > 1 || len(who) > 1) {
				t.Fatalf("%v: %d is at %v on %d, and %v there", l, person, where, day, who)
			}
			if len(where) == 1 {
				met[where[0]]++
			}
		}
		for home, n := range met {
			if n > 1 {
				t.Fatalf("%v: %d people are taken for the home %d on %d", l, n, home, day)
			}
		}
	}
}
