package round_test

import (
	"math"
	"reflect"
	"slices"
	"sync"
	"testing"

	"wayzgoose/api"
	"wayzgoose/round"
)

// args are arguments for all functions of the package.
type args struct {
	spot
	a, b, canvassers    int
	doors, walk, opened []int
	plan                []api.Walk
}

// result is what a call returned: its error, and all else.
type result struct {
	e    api.Errno
	rest any
}

// call calls all functions.
func (a args) call() []result {
	var l []result
	add := func(rest any, e api.Errno) { l = append(l, result{e, rest}) }
	add(0, round.Check(a.g))
	way, e := round.Way(a.g, a.a, a.b)
	add(way, e)
	takes, e := round.Takes(a.g, a.walk)
	add(takes, e)
	safe, e := round.Safe(a.g, a.walk)
	add(safe, e)
	shortest, e := round.Shortest(a.g, a.doors)
	add(shortest, e)
	walks, e := round.Walks(a.g, a.doors)
	add(walks, e)
	add(0, round.Log(a.g, a.l))
	done, e := round.Done(a.g, a.l)
	add(done, e)
	due, e := round.Due(a.g, a.l)
	add(due, e)
	lost, e := round.Lost(a.g, a.l, a.from)
	add(lost, e)
	fewest, e := round.Fewest(a.g, a.l, a.from)
	add(fewest, e)
	plan, e := round.Plan(a.g, a.l, a.from)
	add(plan, e)
	latest, e := round.Latest(a.g, a.l, a.canvassers)
	add(latest, e)
	leave, e := round.Leave(a.g, a.l, a.from, a.canvassers)
	add(leave, e)
	serves, e := round.Serves(a.g, a.l, a.from, a.canvassers, a.plan)
	add(serves, e)
	after, e := round.After(a.g, a.l, a.from, a.walk, a.opened)
	add(after, e)
	return l
}

// args returns arguments most of which are valid.
func (d *die) args() args {
	a := args{spot: d.spot(4)}
	n := len(a.g.Doors)
	a.a, a.b, a.canvassers = d.throw(n+1)-1, d.throw(n+1)-1, d.throw(4)
	a.doors = d.some(upTo(n))
	_, open := doneOf(a.g, a.l)
	a.walk = d.some(open)
	a.opened = d.some(a.walk)
	a.plan = d.wild(a.spot)
	return a
}

// spoiled returns arguments some of which are not valid.
func (d *die) spoiled() args {
	a := d.args()
	switch d.throw(8) {
	case 0:
		a.g.Knock = 0
	case 1:
		a.l = append(a.l, api.Try{Door: 9})
	case 2:
		a.from = 9
	case 3:
		a.a, a.doors, a.walk = 9, append(a.doors, 9), append(a.walk, 9)
	case 4:
		a.opened = append(a.opened, 9)
	case 5:
		a.plan = append(a.plan, api.Walk{Shift: -1})
	case 6:
		a.canvassers = -1
	}
	return a
}

// clone returns arguments that share nothing with those of a.
func (a args) clone() args {
	b := a
	b.g.Doors, b.l, b.plan = slices.Clone(a.g.Doors), slices.Clone(a.l), clonePlan(a.plan)
	b.doors, b.walk, b.opened = slices.Clone(a.doors), slices.Clone(a.walk), slices.Clone(a.opened)
	return b
}

// roomy gives the slices more capacity than they need, with memory behind
// their ends that must not change.
func (a args) roomy() args {
	b := a
	b.l = append(slices.Clone(a.l), api.Try{Door: 7}, api.Try{Door: 7})[:len(a.l)]
	b.walk = append(slices.Clone(a.walk), 7, 7)[:len(a.walk)]
	b.doors = append(slices.Clone(a.doors), 7, 7)[:len(a.doors)]
	return b
}

// TestSameAgain is R2 and R6: a call returns the same again, whatever was
// called before, and in goroutines too.
func TestSameAgain(t *testing.T) {
	d := die{state: 2}
	var all []args
	var first [][]result
	for range 100 {
		a := d.args()
		all = append(all, a)
		first = append(first, a.call())
	}
	var wait sync.WaitGroup
	for i := range all {
		at := len(all) - 1 - i
		wait.Go(func() {
			if !reflect.DeepEqual(all[at].call(), first[at]) {
				t.Errorf("%v: another result", all[at])
			}
		})
	}
	wait.Wait()
}

// TestZeroWithErrors is R3: with an error the other result is a zero value.
func TestZeroWithErrors(t *testing.T) {
	d := die{state: 3}
	met := map[int]bool{}
	for range 1500 {
		a := d.spoiled()
		for i, r := range a.call() {
			if r.e == api.OK {
				continue
			}
			met[i] = true
			v := reflect.ValueOf(r.rest)
			if !v.IsZero() && !(v.Kind() == reflect.Slice && v.Len() == 0) {
				t.Fatalf("%v, function %d: error %d with %v", a, i, r.e, r.rest)
			}
		}
	}
	if len(met) != 16 {
		t.Errorf("errors of %d functions", len(met))
	}
}

// spoil overwrites all memory that a value of slices and structs reaches, up
// to the capacity of its slices.
func spoil(v reflect.Value) {
	switch v.Kind() {
	case reflect.Slice:
		v = v.Slice3(0, v.Cap(), v.Cap())
		for i := range v.Len() {
			spoil(v.Index(i))
		}
	case reflect.Struct:
		for i := range v.NumField() {
			spoil(v.Field(i))
		}
	case reflect.Int:
		if v.CanSet() {
			v.SetInt(-77)
		}
	}
}

func equalArgs(a, b args) bool {
	return reflect.DeepEqual(a.clone(), b.clone()) && slices.Equal(a.l[:cap(a.l)], b.l[:cap(b.l)]) &&
		slices.Equal(a.walk[:cap(a.walk)], b.walk[:cap(b.walk)]) && slices.Equal(a.doors[:cap(a.doors)], b.doors[:cap(b.doors)])
}

// TestNothingShared is R4: no argument is changed, and no result shares memory
// with an argument.
func TestNothingShared(t *testing.T) {
	d := die{state: 4}
	for range 300 {
		a := d.args()
		given, same := a.clone().roomy(), a.clone().roomy()
		results := given.call()
		if !equalArgs(given, same) {
			t.Fatalf("%v became %v", same, given)
		}
		for _, r := range results {
			spoil(reflect.ValueOf(r.rest))
		}
		if !equalArgs(given, same) {
			t.Fatalf("a result shares memory with an argument: %v became %v", same, given)
		}
	}
}

// TestResultsApart is R4: the slices of one result share no memory.
func TestResultsApart(t *testing.T) {
	d := die{state: 44}
	for range 200 {
		s := d.spot(api.MaxDoors)
		groups, _ := round.Walks(s.g, upTo(len(s.g.Doors)))
		plan, _ := round.Plan(s.g, s.l, s.from)
		var all [][]int
		for _, w := range plan {
			all = append(all, w.Doors)
		}
		for _, l := range [][][]int{groups, all} {
			var same [][]int
			for _, x := range l {
				same = append(same, slices.Clone(x))
			}
			for i := range l {
				spoil(reflect.ValueOf(l[i]))
				if !sameLists(l[i+1:], same[i+1:]) {
					t.Fatalf("%v: two of the lists %v share memory", s, same)
				}
			}
		}
	}
}

// TestEmpty is R4: nil and empty slices mean the same as arguments.
func TestEmpty(t *testing.T) {
	g := ground("1 1 1 1 1 1", "")
	none := args{spot: spot{g: g}, a: -1, b: -1}
	empty := none
	empty.g.Doors, empty.l, empty.plan = []api.Door{}, []api.Try{}, []api.Walk{}
	empty.doors, empty.walk, empty.opened = []int{}, []int{}, []int{}
	other := empty.call()
	for i, r := range none.call() {
		if r.e != api.OK || other[i].e != api.OK {
			t.Errorf("function %d: errors %d and %d", i, r.e, other[i].e)
		}
	}
	ok, e := round.Serves(g, nil, 0, 1, []api.Walk{{Doors: []int{}}, {Shift: 1}})
	if !ok || e != api.OK {
		t.Errorf("walks without doors: %v, error %d", ok, e)
	}
}

// TestAnyValue is P1 and R5: each function returns, and does not panic,
// whatever its arguments are.
func TestAnyValue(t *testing.T) {
	wild := []int{math.MinInt, -2, -1, 0, 1, 2, 3, 4, 5, 6, 64, math.MaxInt}
	d := die{state: 5}
	number := func() int { return wild[d.throw(len(wild))] }
	few := func() []int {
		var l []int
		for range d.throw(8) {
			l = append(l, number())
		}
		return l
	}
	for i := range 4000 {
		a := d.args()
		a.a, a.b, a.canvassers = number(), number(), number()
		a.doors, a.walk, a.opened = few(), few(), few()
		if i%2 == 0 {
			a.from = number()
		}
		if i%3 == 0 {
			a.l = append(a.l, api.Try{Door: number(), Shift: number(), Opened: true})
		}
		a.plan = append(a.plan, api.Walk{Shift: number(), Doors: few()})
		for _, field := range []*int{&a.g.Streets, &a.g.Corner, &a.g.Knock, &a.g.Minutes, &a.g.Days, &a.g.Tries} {
			if i%5 == 0 && d.throw(6) == 0 {
				*field = number()
			}
		}
		if i%7 == 0 {
			a.g.Doors = append(a.g.Doors, api.Door{Street: number(), At: number(), Talk: number()})
		}
		a.call()
	}
	(args{}).call()
	many := args{spot: spot{g: ground("1 1 1 90 3 3", "0 1 1")}, canvassers: 5}
	many.plan = make([]api.Walk, 1<<16)
	many.call()
	many.g.Doors = make([]api.Door, 1<<16)
	many.call()
	many = args{spot: spot{g: exampleG(), l: make([]api.Try, 1<<16)}}
	many.doors, many.walk, many.opened = make([]int, 1<<16), make([]int, 1<<16), make([]int, 1<<16)
	many.call()
}
