package name_test

import (
	"math"
	"reflect"
	"slices"
	"strings"
	"sync"
	"testing"

	"wayzgoose/api"
	"wayzgoose/name"
)

// args are arguments for all functions of the package.
type args struct {
	r         []api.Rule
	a, b      string
	abbr      string
	l         []string
	at, width int
}

// result is what a call returned: its error, and all else.
type result struct {
	e    api.Errno
	rest any
}

// call calls all functions.
func (a args) call() []result {
	var l []result
	add := func(rest any, e api.Errno) { l = append(l, result{e, rest}) }
	add(0, name.Check(a.a))
	key, e := name.Key(a.a)
	add(key, e)
	other, e := name.Other(a.a)
	add(other, e)
	compare, e := name.Compare(a.a, a.b)
	add(compare, e)
	sort, e := name.Sort(a.l)
	add(sort, e)
	place, e := name.Place(a.l, a.a)
	add(place, e)
	wrong, e := name.Wrong(a.l)
	add(wrong, e)
	uses, e := name.Uses(a.r, a.a, a.b)
	add(uses, e)
	verdict, e := name.Verdict(a.r, a.a, a.b)
	add(verdict, e)
	chain, e := name.Chain(a.r, a.a, a.b)
	add(chain, e)
	near, e := name.Near(a.r, a.a, a.l)
	add(near, e)
	short, e := name.Short(a.abbr, a.a)
	add(short, e)
	stands, e := name.Stands(a.abbr, a.l)
	add(stands, e)
	shortest, e := name.Shortest(a.l, a.at)
	add(shortest, e)
	fit, e := name.Fit(a.l, a.at, a.width)
	add(fit, e)
	return l
}

// args returns arguments most of which are valid.
func (d *die) args() args {
	a := args{r: d.rules(), a: d.name(), l: append(d.list(), d.name())}
	a.l = a.l[max(0, len(a.l)-6):]
	if d.throw(3) == 0 {
		slices.SortFunc(a.l, compare)
	}
	a.b = d.near(a.r, a.a)
	a.abbr = d.abbreviation(keyOf(a.a)) + "."
	a.at, a.width = d.throw(len(a.l)), 1+d.throw(6)
	return a
}

// spoiled returns arguments some of which are not valid.
func (d *die) spoiled() args {
	a := d.args()
	switch d.throw(8) {
	case 0:
		a.a += "1"
	case 1:
		a.l = append(a.l, "HAT")
	case 2:
		a.r = append(a.r, api.Rule{})
	case 3:
		a.abbr = a.a
	case 4:
		a.at = -1
	case 5:
		a.width = 0
	case 6:
		a.b = ""
	}
	return a
}

// clone returns arguments that share nothing with those of a.
func (a args) clone() args {
	b := a
	b.r, b.l = slices.Clone(a.r), slices.Clone(a.l)
	return b
}

// roomy gives the slices more capacity than they need, with memory behind
// their ends that must not change.
func (a args) roomy() args {
	b := a
	b.r = append(slices.Clone(a.r), api.Rule{From: "z"}, api.Rule{From: "z"})[:len(a.r)]
	b.l = append(slices.Clone(a.l), "z", "z")[:len(a.l)]
	return b
}

// TestSameAgain is R2 and R6: a call returns the same again, whatever was
// called before, and in goroutines too.
func TestSameAgain(t *testing.T) {
	d := die{state: 2}
	var all []args
	var first [][]result
	for range 100 {
		a := d.args()
		all = append(all, a)
		first = append(first, a.call())
	}
	var wait sync.WaitGroup
	for i := range all {
		at := len(all) - 1 - i
		wait.Go(func() {
			if !reflect.DeepEqual(all[at].call(), first[at]) {
				t.Errorf("%v: another result", all[at])
			}
		})
	}
	wait.Wait()
}

// TestZeroWithErrors is R3: with an error the other result is a zero value.
func TestZeroWithErrors(t *testing.T) {
	d := die{state: 3}
	met := map[int]bool{}
	for range 1500 {
		a := d.spoiled()
		for i, r := range a.call() {
			if r.e == api.OK {
				continue
			}
			met[i] = true
			v := reflect.ValueOf(r.rest)
			if !v.IsZero() && !(v.Kind() == reflect.Slice && v.Len() == 0) {
				t.Fatalf("%v, function %d: error %d with %v", a, i, r.e, r.rest)
			}
		}
	}
	if len(met) != 15 {
		t.Errorf("errors of %d functions", len(met))
	}
}

// spoil overwrites the memory of a slice, up to its capacity.
func spoil(x any) {
	switch l := x.(type) {
	case []int:
		for i := range l[:cap(l)] {
			l[:cap(l)][i] = -77
		}
	case []string:
		for i := range l[:cap(l)] {
			l[:cap(l)][i] = "spoiled"
		}
	}
}

func equalArgs(a, b args) bool {
	return slices.Equal(a.r[:cap(a.r)], b.r[:cap(b.r)]) && slices.Equal(a.l[:cap(a.l)], b.l[:cap(b.l)])
}

// TestNothingShared is R4: no argument is changed, and no result shares memory
// with an argument.
func TestNothingShared(t *testing.T) {
	d := die{state: 4}
	for range 500 {
		a := d.args()
		given, same := a.roomy(), a.roomy()
		results := given.call()
		if !equalArgs(given, same) {
			t.Fatalf("%v became %v", same, given)
		}
		for _, r := range results {
			spoil(r.rest)
		}
		if !equalArgs(given, same) {
			t.Fatalf("a result shares memory with an argument: %v became %v", same, given)
		}
		if a = a.clone(); !reflect.DeepEqual(a.call(), given.call()) {
			t.Fatalf("%v: a result shares memory with one of another call", a)
		}
	}
}

// TestEmpty is R4: nil and empty slices mean the same as arguments.
func TestEmpty(t *testing.T) {
	none := args{a: "chad", b: "CAD", abbr: "c.", width: 1}
	empty := none
	empty.r, empty.l = []api.Rule{}, []string{}
	other := empty.call()
	for i, r := range none.call() {
		want := api.OK
		if i >= 13 {
			want = api.ErrNoSuch
		}
		if r.e != want || other[i].e != want {
			t.Errorf("function %d: errors %d and %d", i, r.e, other[i].e)
		}
	}
}

// TestAnyValue is P1 and R5: each function returns, and does not panic,
// whatever its arguments are.
func TestAnyValue(t *testing.T) {
	d := die{state: 5}
	numbers := []int{math.MinInt, -2, -1, 0, 1, 2, 5, 6, 12, 13, math.MaxInt}
	number := func() int { return numbers[d.throw(len(numbers))] }
	wild := func() string {
		s := []string{"", ".", "a", "A", "aa", "CAD", "chad", "H", "é", "\xff", "chadwik"}[d.throw(11)]
		for range d.throw(3) {
			s += string([]byte{byte(d.throw(256))})
		}
		return s
	}
	for range 20000 {
		a := d.args()
		a.at, a.width = number(), number()
		for _, s := range []*string{&a.a, &a.b, &a.abbr, &a.l[0], &a.l[len(a.l)-1]} {
			if d.throw(3) == 0 {
				*s = wild()
			}
		}
		if d.throw(3) == 0 {
			a.r = append(a.r, api.Rule{From: wild(), To: wild()})
		}
		a.call()
	}
	(args{}).call()
	long := strings.Repeat("a", 1<<16)
	(args{a: long, b: long, abbr: long, l: []string{long}, width: 1}).call()
	(args{r: []api.Rule{{From: long, To: long}}, a: "a", b: "a", abbr: "a.", l: make([]string, 1<<16)}).call()
	(args{r: make([]api.Rule, 1<<16), a: "a", b: "a", abbr: "a."}).call()
}
