package kin_test

import (
	"fmt"
	"math"
	"reflect"
	"slices"
	"strings"
	"sync"
	"testing"

	"wayzgoose/api"
	"wayzgoose/kin"
)

// args are arguments for all functions of the package.
type args struct {
	k    api.Kin
	x    api.Tie
	a, b int
}

// result is what a call returned: its function, its error, and all else.
type result struct {
	function string
	e        api.Errno
	rest     []any
}

const functions = 18

// call calls all functions.
func (a args) call() []result {
	var l []result
	add := func(function string, e api.Errno, rest ...any) { l = append(l, result{function, e, rest}) }
	add("Check", kin.Check(a.k))
	apart, e := kin.Apart(a.k, a.a, a.b)
	add("Apart", e, apart)
	truths, e := kin.Truths(a.k)
	add("Truths", e, truths)
	pairs, e := kin.Pairs(a.k)
	add("Pairs", e, pairs)
	must, e := kin.Must(a.k)
	add("Must", e, must)
	verdict, e := kin.Verdict(a.k, a.a, a.b)
	add("Verdict", e, verdict)
	fate, e := kin.Fate(a.k, a.a)
	add("Fate", e, fate)
	origin, e := kin.Origin(a.k, a.b)
	add("Origin", e, origin)
	stays, e := kin.Stays(a.k, a.a)
	add("Stays", e, stays)
	gone, e := kin.Gone(a.k)
	add("Gone", e, gone)
	new, e := kin.New(a.k)
	add("New", e, new)
	moved, e := kin.Moved(a.k)
	add("Moved", e, moved)
	least, e := kin.Least(a.k)
	add("Least", e, least)
	best, e := kin.Best(a.k)
	add("Best", e, best)
	wrong, e := kin.Wrong(a.k)
	add("Wrong", e, wrong)
	clash, e := kin.Clash(a.k)
	add("Clash", e, clash)
	more, e := kin.Add(a.k, a.x)
	add("Add", e, more)
	old, other, left, e := kin.Ask(a.k)
	add("Ask", e, old, other, left)
	return l
}

// summary returns as a string what all functions return for all people of kin,
// but for some functions. In it a nil slice is the same as an empty one.
func summary(k api.Kin, but ...string) string {
	var l []result
	for old := range max(len(k.Before), 1) {
		for other := range max(len(k.After), 1) {
			l = append(l, (args{k: k, a: old, b: other, x: api.Tie{A: -1}}).call()...)
		}
	}
	return fmt.Sprint(slices.DeleteFunc(l, func(r result) bool { return slices.Contains(but, r.function) }))
}

// mustBeAlike fails if any function but some tells two kin apart.
func mustBeAlike(t *testing.T, k, m api.Kin, but ...string) {
	t.Helper()
	if one, other := summary(k, but...), summary(m, but...); one != other {
		t.Fatalf("%v: %s\n%v: %s", k, one, m, other)
	}
}

// args returns valid arguments; the kin have people, and perhaps no truth.
func (d *die) args() args {
	for {
		a := args{k: d.kin()}
		x, ok := d.fact(a.k)
		if ok && len(a.k.Facts) < api.MaxTies {
			a.x, a.a, a.b = x, d.throw(len(a.k.Before)), d.throw(len(a.k.After))
			return a
		}
	}
}

// spoiled returns arguments some of which are not valid.
func (d *die) spoiled() args {
	a := d.args()
	switch d.throw(8) {
	case 0:
		a.k.Moved = -1
	case 1:
		a.k.Story.Steps = make([]api.Step, 1)
	case 2:
		a.k.Before[a.a].Bold = true
	case 3:
		a.a = len(a.k.Before)
	case 4:
		a.b = -1
	case 5:
		a.x.A = -1
	case 6:
		a.k.Facts = append(a.k.Facts, a.x)
	case 7:
		a.k.After[a.b].Number = 0
	}
	return a
}

// full returns kin with all that their slices have behind their ends.
func full(k api.Kin) api.Kin {
	k = clone(k, 0)
	s, t := &k.Story, &k.Trades
	for i, row := range s.First.Streets {
		s.First.Streets[i] = whole(row)
	}
	for i, x := range s.Steps {
		s.Steps[i].Ways = whole(x.Ways)
	}
	for i, h := range t.Heads {
		t.Heads[i].Also = whole(h.Also)
	}
	s.First.Streets, s.Steps, s.Facts = whole(s.First.Streets), whole(s.Steps), whole(s.Facts)
	t.Classes, t.Heads, k.Rules = whole(t.Classes), whole(t.Heads), whole(k.Rules)
	k.Before, k.After, k.Facts = whole(k.Before), whole(k.After), whole(k.Facts)
	return k
}

// whole returns a slice with all that is behind its end.
func whole[T any](l []T) []T { return l[:cap(l)] }

// TestSameAgain is R2 and R6: a call returns the same again, whatever was called
// before, and in goroutines too.
func TestSameAgain(t *testing.T) {
	d := die{state: 2}
	var all []args
	var first [][]result
	for range 200 {
		a := d.args()
		all = append(all, a)
		first = append(first, a.call())
	}
	var wait sync.WaitGroup
	for i := range all {
		at := len(all) - 1 - i
		wait.Go(func() {
			if !reflect.DeepEqual(all[at].call(), first[at]) {
				t.Errorf("%v: another result", all[at])
			}
		})
	}
	wait.Wait()
}

// TestZeroWithErrors is R3: with an error all other results are zero values.
func TestZeroWithErrors(t *testing.T) {
	d := die{state: 3}
	met := map[string]bool{}
	for range 2000 {
		a := d.spoiled()
		for _, r := range a.call() {
			if r.e == api.OK {
				continue
			}
			met[r.function] = true
			for _, x := range r.rest {
				if !isZero(x) {
					t.Fatalf("%v, %s: error %d with %v", a, r.function, r.e, x)
				}
			}
		}
	}
	if len(met) != functions {
		t.Errorf("errors of %v", met)
	}
}

// TestFirstErrors is R1: all functions return Check's error first, and those
// that take people ErrNoSuch before ErrClash.
func TestFirstErrors(t *testing.T) {
	for _, s := range spoilers() {
		a := args{k: spoilable(), a: 9, b: -1, x: api.Tie{A: 9}}
		s.do(&a.k)
		for _, r := range a.call() {
			mustBe(t, r.function+", "+s.what, r.e, s.e)
		}
	}
	clash := withLimits(exampleK("0=0"), 0, 0, 0)
	for _, r := range (args{k: clash, a: 3, b: 3, x: tie("3=3")}).call() {
		want := api.ErrNoSuch
		switch r.function {
		case "Check", "Truths", "Least", "Clash":
			want = api.OK
		case "Wrong":
			want = api.ErrNone
		case "Pairs", "Must", "Gone", "New", "Moved", "Best", "Ask":
			want = api.ErrClash
		}
		mustBe(t, r.function, r.e, want)
	}
	for _, r := range (args{k: clash, x: tie("0!0")}).call() {
		want := api.ErrClash
		switch r.function {
		case "Check", "Apart", "Truths", "Least", "Clash":
			want = api.OK
		case "Wrong":
			want = api.ErrNone
		case "Add":
			want = api.ErrRepeated
		}
		mustBe(t, r.function, r.e, want)
	}
}

// spoil overwrites all memory that a value of slices and structs reaches, up to
// the capacity of its slices.
func spoil(v reflect.Value) {
	switch v.Kind() {
	case reflect.Slice:
		v = v.Slice3(0, v.Cap(), v.Cap())
		for i := range v.Len() {
			spoil(v.Index(i))
		}
	case reflect.Struct:
		for i := range v.NumField() {
			spoil(v.Field(i))
		}
	case reflect.Int:
		if v.CanSet() {
			v.SetInt(-77)
		}
	case reflect.String:
		if v.CanSet() {
			v.SetString("spoiled")
		}
	}
}

// TestNothingShared is R4: no argument is changed, and no result shares memory
// with an argument, or with one of another call.
func TestNothingShared(t *testing.T) {
	d := die{state: 4}
	for range 400 {
		a := d.args()
		given, copied := a, a
		given.k, copied.k = clone(a.k, 2), clone(a.k, 2)
		results := given.call()
		if !reflect.DeepEqual(full(given.k), full(copied.k)) {
			t.Fatalf("%v became %v", copied, given)
		}
		for _, r := range results {
			for _, x := range r.rest {
				spoil(reflect.ValueOf(x))
			}
		}
		if !reflect.DeepEqual(full(given.k), full(copied.k)) {
			t.Fatalf("a result shares memory with an argument: %v became %v", copied, given)
		}
		if !reflect.DeepEqual(given.call(), copied.call()) {
			t.Fatalf("%v: a result shares memory with one of another call", a)
		}
	}
}

// TestResultApart is R4: no two slices of one result share memory, even if those
// of the argument do.
func TestResultApart(t *testing.T) {
	k := exampleK2("")
	k.Story.First.Streets[1] = k.Story.First.Streets[0][:1]
	k.Story.Steps = append(k.Story.Steps, k.Story.Steps[0])
	k.Trades = trades("class a\nb is a also d\nc is a also d\nd is a\nfinis\n")
	k.Trades.Heads[1].Also = k.Trades.Heads[0].Also
	k.Before = people("smith 0/1, smith 0/1")
	k.After = k.Before
	k.Gone, k.New, k.Moved = 4, 4, 4
	k.Facts = make([]api.Tie, 0, 4)
	m, e := kin.Add(k, tie("0=0"))
	mustBe(t, "Add", e, api.OK)
	want := clone(m, 0)
	spoil(reflect.ValueOf(m.Story.First.Streets[0]))
	spoil(reflect.ValueOf(m.Story.Steps[0].Ways))
	spoil(reflect.ValueOf(m.Trades.Heads[0].Also))
	spoil(reflect.ValueOf(m.Before))
	if !slices.Equal(m.Story.First.Streets[1], want.Story.First.Streets[1]) || !slices.Equal(m.Story.Steps[1].Ways, want.Story.Steps[1].Ways) ||
		!slices.Equal(m.Trades.Heads[1].Also, want.Trades.Heads[1].Also) || !slices.Equal(m.After, want.After) {
		t.Errorf("%v became %v", want, m)
	}
	for _, call := range []func(api.Kin) ([][]int, api.Errno){kin.Pairs, kin.Must, kin.Best} {
		for i := range 2 {
			l, e := call(exampleK(""))
			if mustBe(t, "a list of pairs", e, api.OK); len(l) != 2 {
				t.Fatalf("%v", l)
			}
			other := slices.Clone(l[1-i])
			spoil(reflect.ValueOf(l[i]))
			if !slices.Equal(l[1-i], other) {
				t.Errorf("the pairs of %v share memory", l)
			}
		}
	}
}

// TestEmpty is R4: nil and empty slices mean the same as arguments.
func TestEmpty(t *testing.T) {
	none := plain("ann 0/1", "ann 0/1", "")
	none.Story = story("[1][]")
	none.Story.First.Streets[1] = nil
	empty := none
	empty.Story = api.Story{
		First: api.Plan{Streets: [][]api.Plate{none.Story.First.Streets[0], {}}}, Steps: []api.Step{}, Facts: []api.Fact{},
	}
	empty.Trades = api.Trades{Classes: []api.Class{}, Heads: []api.Head{}}
	empty.Rules, empty.Facts = []api.Rule{}, []api.Tie{}
	mustBe(t, "empty slices", kin.Check(empty), api.OK)
	mustBeAlike(t, none, empty)
	m, e := kin.Add(none, tie("0=0"))
	n, f := kin.Add(empty, tie("0=0"))
	if !same(m, n) || e != api.OK || f != api.OK {
		t.Errorf("%v, error %d; %v, error %d", m, e, n, f)
	}
	none.Before, none.After = nil, nil
	empty.Before, empty.After = []api.Person{}, []api.Person{}
	mustBeAlike(t, none, empty)
}

// TestAnyValue is P1 and R5: each function returns, and does not panic, whatever
// its arguments are.
func TestAnyValue(t *testing.T) {
	d := die{state: 5}
	number := func() int {
		return pick(&d, math.MinInt, -2, -1, 0, 1, 2, 3, 4, 5, 6, 7, 40, 63, 64, math.MaxInt)
	}
	wild := func() string {
		return pick(&d, "", " ", "a", "Anna", "é", "\xff", "chadwik", strings.Repeat("a", 1<<10))
	}
	person := func() api.Person {
		return api.Person{Name: wild(), Street: number(), Number: number(), Head: number(), Bold: d.throw(2) == 0}
	}
	for range 3000 {
		a := d.args()
		a.a, a.b = number(), number()
		switch k := &a.k; d.throw(12) {
		case 0:
			k.Gone, k.New, k.Moved = number(), number(), number()
		case 1:
			k.Before[0] = person()
		case 2:
			k.After[0] = person()
		case 3:
			k.Before[0].Head, k.After[0].Head = number(), number()
		case 4:
			k.Before[0].Street, k.After[0].Number = number(), number()
		case 5:
			k.After[0].Street = number()
		case 6:
			k.Facts = append(k.Facts, api.Tie{A: number(), B: number(), Same: true})
		case 7:
			k.Rules = append(k.Rules, api.Rule{From: wild(), To: wild()})
		case 8:
			k.Trades.Classes = append(k.Trades.Classes, api.Class{Name: wild(), Under: number()})
		case 9:
			k.Trades.Heads = append(k.Trades.Heads, api.Head{Word: wild(), Class: number(), See: number(), Also: []int{number()}})
		case 10:
			c := api.Change{Kind: number(), Street: number(), Other: number(), From: api.Plate{Number: number(), Letter: number()}}
			k.Story.Steps = append(k.Story.Steps, step(c))
		case 11:
			a.x = api.Tie{A: number(), B: number()}
		}
		a.call()
	}
	(args{}).call()
	for _, do := range []func(k *api.Kin){
		func(k *api.Kin) { k.Story.First.Streets = make([][]api.Plate, 1<<16) },
		func(k *api.Kin) { k.Story.Steps = make([]api.Step, 1<<16) },
		func(k *api.Kin) { k.Story.Facts = make([]api.Fact, 1<<16) },
		func(k *api.Kin) { k.Trades.Heads = make([]api.Head, 1<<16) },
		func(k *api.Kin) { k.Rules = make([]api.Rule, 1<<16) },
		func(k *api.Kin) { k.Before = make([]api.Person, 1<<16) },
		func(k *api.Kin) { k.After = make([]api.Person, 1<<16) },
		func(k *api.Kin) { k.Facts = make([]api.Tie, 1<<16) },
	} {
		k := exampleK("")
		do(&k)
		(args{k: k}).call()
	}
}
