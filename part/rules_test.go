package part_test

import (
	"math"
	"reflect"
	"slices"
	"strings"
	"sync"
	"testing"

	"wayzgoose/api"
	"wayzgoose/part"
)

// args are arguments for all functions of the package.
type args struct {
	v                   api.Volume
	p                   api.Parts
	part, person, class int
	beginning           string
}

// result is what a call returned: its error, and all else.
type result struct {
	e    api.Errno
	rest []any
}

const functions = 15

// call calls all functions.
func (a args) call() []result {
	var l []result
	add := func(e api.Errno, rest ...any) { l = append(l, result{e, rest}) }
	add(part.Check(a.v))
	order, e := part.Order(a.v, a.part)
	add(e, order)
	entry, e := part.Entry(a.v, a.part, a.person)
	add(e, entry)
	set, e := part.Set(a.v, a.part)
	add(e, set)
	pages, e := part.Pages(a.v, a.part)
	add(e, pages)
	short, e := part.Short(a.v)
	add(e, short)
	narrow, e := part.Narrow(a.v)
	add(e, narrow)
	twice, e := part.Twice(a.v)
	add(e, twice)
	under, e := part.Under(a.v, a.class)
	add(e, under)
	find, e := part.Find(a.v, a.beginning)
	add(e, find)
	add(part.CheckParts(a.v, a.p))
	moved, e := part.Moved(a.v, a.p, a.part)
	add(e, moved)
	mend, edits, e := part.Mend(a.v, a.p)
	add(e, mend, edits)
	losses, e := part.Losses(a.v, a.p)
	add(e, losses)
	same, e := part.Same(a.v, a.p)
	add(e, same)
	return l
}

// args returns valid arguments.
func (d *die) args() args {
	a := args{v: d.settable()}
	for len(a.v.Trades.Classes) == 0 {
		a.v = d.settable()
	}
	a.p = d.parts(a.v, false)
	a.part, a.person, a.class = d.throw(parts), d.throw(len(a.v.People)), d.throw(len(a.v.Trades.Classes))
	a.beginning = pick(d, "", "b", "c", "ha", "x")
	return a
}

// spoiled returns arguments some of which are not valid.
func (d *die) spoiled() args {
	a := d.args()
	switch d.throw(7) {
	case 0:
		all := spoilers()
		all[d.throw(3)].do(&a.v)
	case 1:
		a.v.People[a.person].Number = 0
	case 2:
		a.part = pick(d, -1, 3)
	case 3:
		a.person = len(a.v.People)
	case 4:
		a.class = -1
	case 5:
		a.p.ByTrade = append(a.p.ByTrade, api.Person{})
	case 6:
		a.v.Width = 1
	}
	return a
}

// clone returns arguments that share nothing with those of a, in slices that
// have more capacity than they need.
func (a args) clone() args {
	v := &a.v
	v.Trades.Classes = roomy(v.Trades.Classes)
	v.Trades.Heads = roomy(v.Trades.Heads)
	for i, h := range v.Trades.Heads {
		v.Trades.Heads[i].Also = roomy(h.Also)
	}
	v.Rules, v.People = roomy(v.Rules), roomy(v.People)
	a.p = api.Parts{ByStreet: roomy(a.p.ByStreet), ByName: roomy(a.p.ByName), ByTrade: roomy(a.p.ByTrade)}
	return a
}

// roomy returns a copy of a list with memory behind its end.
func roomy[T any](l []T) []T { return slices.Grow(slices.Clone(l), 2) }

// full returns arguments with all that their slices have behind their ends.
func (a args) full() args {
	v := &a.v
	v.Trades.Classes = v.Trades.Classes[:cap(v.Trades.Classes)]
	v.Trades.Heads = slices.Clone(v.Trades.Heads[:cap(v.Trades.Heads)])
	for i, h := range v.Trades.Heads {
		v.Trades.Heads[i].Also = h.Also[:cap(h.Also)]
	}
	v.Rules, v.People = v.Rules[:cap(v.Rules)], v.People[:cap(v.People)]
	for at := range parts {
		l := list(&a.p, at)
		*l = (*l)[:cap(*l)]
	}
	return a
}

// TestSameAgain is R2 and R6: a call returns the same again, whatever was called
// before, and in goroutines too.
func TestSameAgain(t *testing.T) {
	d := die{state: 2}
	var all []args
	var first [][]result
	for range 200 {
		a := d.args()
		all = append(all, a)
		first = append(first, a.call())
	}
	var wait sync.WaitGroup
	for i := range all {
		at := len(all) - 1 - i
		wait.Go(func() {
			if !reflect.DeepEqual(all[at].call(), first[at]) {
				t.Errorf("%v: another result", all[at])
			}
		})
	}
	wait.Wait()
}

// TestZeroWithErrors is R3: with an error all other results are zero values.
func TestZeroWithErrors(t *testing.T) {
	d := die{state: 3}
	met := map[int]bool{}
	for range 2000 {
		a := d.spoiled()
		for i, r := range a.call() {
			if r.e == api.OK {
				continue
			}
			met[i] = true
			for _, x := range r.rest {
				if !isZero(x) {
					t.Fatalf("%v, function %d: error %d with %v", a, i, r.e, x)
				}
			}
		}
	}
	if len(met) != functions {
		t.Errorf("errors of %d functions", len(met))
	}
}

// spoil overwrites all memory that a value of slices and structs reaches, up to
// the capacity of its slices.
func spoil(v reflect.Value) {
	switch v.Kind() {
	case reflect.Slice:
		v = v.Slice3(0, v.Cap(), v.Cap())
		for i := range v.Len() {
			spoil(v.Index(i))
		}
	case reflect.Struct:
		for i := range v.NumField() {
			spoil(v.Field(i))
		}
	case reflect.Int:
		if v.CanSet() {
			v.SetInt(-77)
		}
	case reflect.String:
		if v.CanSet() {
			v.SetString("spoiled")
		}
	}
}

// TestNothingShared is R4: no argument is changed, and no result shares memory
// with an argument, or with one of another call.
func TestNothingShared(t *testing.T) {
	d := die{state: 4}
	for range 500 {
		a := d.args()
		given, copied := a.clone(), a.clone()
		results := given.call()
		if !reflect.DeepEqual(given.full(), copied.full()) {
			t.Fatalf("%v became %v", copied, given)
		}
		for _, r := range results {
			for _, x := range r.rest {
				spoil(reflect.ValueOf(x))
			}
		}
		if !reflect.DeepEqual(given.full(), copied.full()) {
			t.Fatalf("a result shares memory with an argument: %v became %v", copied, given)
		}
		if !reflect.DeepEqual(given.call(), copied.call()) {
			t.Fatalf("%v: a result shares memory with one of another call", a)
		}
	}
}

// TestPagesApart is R4: the pages share no memory.
func TestPagesApart(t *testing.T) {
	v := volume(5, 3, "an 0/1 *, bo 0/2 *, cy 1/3, di 1/4, ed 1/5, fy 1/6")
	for i := range 5 {
		l, e := part.Pages(v, api.PartStreet)
		mustBe(t, "Pages", e, api.OK)
		want, _ := part.Pages(v, api.PartStreet)
		if i >= len(l) {
			break
		}
		spoil(reflect.ValueOf(l[i]))
		for j := range l {
			if j != i {
				mustEqual(t, "another page", l[j], want[j])
			}
		}
	}
}

// TestEmpty is R4: nil and empty slices mean the same as arguments.
func TestEmpty(t *testing.T) {
	none := args{v: api.Volume{Streets: 1, Width: 1, Rows: 3}}
	empty := none
	empty.v.Trades = api.Trades{Classes: []api.Class{}, Heads: []api.Head{}}
	empty.v.Rules, empty.v.People = []api.Rule{}, []api.Person{}
	empty.p = api.Parts{ByStreet: []api.Person{}, ByName: []api.Person{}, ByTrade: []api.Person{}}
	for at := range parts {
		none.part, empty.part = at, at
		a, b := none.call(), empty.call()
		for i := range a {
			if a[i].e != b[i].e || len(a[i].rest) != len(b[i].rest) {
				t.Errorf("function %d: %v and %v", i, a[i], b[i])
			}
			for j := range a[i].rest {
				if isZero(a[i].rest[j]) != isZero(b[i].rest[j]) {
					t.Errorf("function %d: %v and %v", i, a[i], b[i])
				}
			}
		}
	}
}

// TestAnyValue is P1 and R5: each function returns, and does not panic, whatever
// its arguments are.
func TestAnyValue(t *testing.T) {
	d := die{state: 5}
	number := func() int {
		return pick(&d, math.MinInt, -2, -1, 0, 1, 2, 3, 4, 5, 6, 7, 13, 40, 63, 64, math.MaxInt)
	}
	wild := func() string {
		return pick(&d, "", " ", "a", "Anna", "é", "\xff", "chadwik", "*", strings.Repeat("a", 1<<10))
	}
	person := func() api.Person {
		return api.Person{Name: wild(), Street: number(), Number: number(), Head: number(), Bold: d.throw(2) == 0}
	}
	for range 3000 {
		a := d.args()
		a.part, a.person, a.class, a.beginning = number(), number(), number(), wild()
		switch v := &a.v; d.throw(10) {
		case 0:
			v.Streets = number()
		case 1:
			v.Width = number()
		case 2:
			v.Rows = number()
		case 3:
			v.Rules = append(v.Rules, api.Rule{From: wild(), To: wild()})
		case 4:
			v.People[0] = person()
		case 5:
			v.People[0].Head = number()
		case 6:
			v.Trades.Classes = append(v.Trades.Classes, api.Class{Name: wild(), Under: number()})
		case 7:
			v.Trades.Heads = append(v.Trades.Heads, api.Head{Word: wild(), Class: number(), See: number(), Also: []int{number()}})
		case 8:
			l := list(&a.p, d.throw(parts))
			*l = append(*l, person())
		case 9:
			a.p.ByTrade = a.p.ByName
		}
		a.call()
	}
	(args{}).call()
	many := make([]api.Person, 1<<16)
	v := volume(5, 4, "")
	(args{v: inVolume(v, many)}).call()
	(args{v: v, p: api.Parts{ByStreet: many, ByName: many, ByTrade: many}}).call()
	v.Rules = make([]api.Rule, 1<<16)
	(args{v: v}).call()
	v.Trades.Heads = make([]api.Head, 1<<16)
	(args{v: v}).call()
}
