package street_test

import (
	"math"
	"reflect"
	"slices"
	"strings"
	"sync"
	"testing"

	"wayzgoose/api"
	"wayzgoose/street"
)

// args are arguments for all functions of the package.
type args struct {
	p, q  api.Plan
	c     api.Change
	s     api.Story
	house api.Place
	to    api.Place
	text  string
}

// result is what a call returned: its error, and all else.
type result struct {
	e    api.Errno
	rest []any
}

// call calls all functions.
func (a args) call() []result {
	var l []result
	add := func(e api.Errno, rest ...any) { l = append(l, result{e, rest}) }
	add(street.Check(a.p))
	after, e := street.After(a.p, a.c)
	add(e, after)
	becomes, e := street.Becomes(a.p, a.c, a.house)
	add(e, becomes)
	was, e := street.Was(a.p, a.c, a.house)
	add(e, was)
	truths, e := street.Truths(a.s)
	add(e, truths)
	ends, e := street.Ends(a.s)
	add(e, ends)
	where, e := street.Where(a.s, a.house)
	add(e, where)
	whence, e := street.Whence(a.s, a.house)
	add(e, whence)
	verdict, e := street.Verdict(a.s, a.house, a.to)
	add(e, verdict)
	lost, e := street.Lost(a.s)
	add(e, lost)
	ask, left, e := street.Ask(a.s)
	add(e, ask, left)
	settle, e := street.Settle(a.s)
	add(e, settle)
	guess, e := street.Guess(a.p, a.q)
	add(e, guess)
	text, e := street.Write(a.p)
	add(e, text)
	read, _, e := street.Read(a.text)
	add(e, read)
	return l
}

// args returns arguments most of which are valid.
func (d *die) args() args {
	a := args{s: d.story(4)}
	a.p = a.s.First
	a.q = d.plan(4)
	a.c = d.change(a.p)
	row := d.throw(len(a.p.Streets))
	a.house = api.Place{Street: row, Plate: d.house(a.p, row)}
	a.to = api.Place{Street: row, Plate: d.house(a.p, row)}
	a.text, _ = street.Write(a.q)
	return a
}

func clonePlan(p api.Plan) api.Plan {
	q := api.Plan{}
	for _, row := range p.Streets {
		q.Streets = append(q.Streets, slices.Clone(row))
	}
	return q
}

// clone returns arguments that share nothing with those of a.
func (a args) clone() args {
	b := a
	b.p, b.q, b.s.First = clonePlan(a.p), clonePlan(a.q), clonePlan(a.s.First)
	b.s.Steps = nil
	for _, step := range a.s.Steps {
		b.s.Steps = append(b.s.Steps, api.Step{Ways: slices.Clone(step.Ways)})
	}
	b.s.Facts = slices.Clone(a.s.Facts)
	return b
}

// TestSameAgain is R2 and R6: a call returns the same again, whatever was
// called before, and in goroutines too.
func TestSameAgain(t *testing.T) {
	d := die{state: 2}
	var all []args
	var first [][]result
	for range 100 {
		a := d.args()
		all = append(all, a)
		first = append(first, a.call())
	}
	var wait sync.WaitGroup
	for i := range all {
		at := len(all) - 1 - i
		wait.Go(func() {
			if !reflect.DeepEqual(all[at].call(), first[at]) {
				t.Errorf("%v: another result", all[at])
			}
		})
	}
	wait.Wait()
}

// TestZeroWithErrors is R3: with an error all other results are zero values.
func TestZeroWithErrors(t *testing.T) {
	d := die{state: 3}
	met := map[int]bool{}
	for i := range 500 {
		a := d.args()
		if i%5 == 0 {
			a.p.Streets[0] = append([]api.Plate{{Number: 2}, {Number: 2}}, a.p.Streets[0]...)
		}
		if i%7 == 0 {
			a.s.Steps = append(a.s.Steps, api.Step{})
		}
		if i%3 == 0 {
			a.text = strings.Replace(a.text, "]", "]x", 1)
		}
		for j, r := range a.call() {
			if r.e == api.OK {
				continue
			}
			met[j] = true
			for _, x := range r.rest {
				v := reflect.ValueOf(x)
				if !v.IsZero() && !(v.Kind() == reflect.Slice && v.Len() == 0) {
					t.Fatalf("%v, function %d: error %d with %v", a, j, r.e, x)
				}
			}
		}
	}
	if len(met) != 15 {
		t.Errorf("errors of %d functions", len(met))
	}
}

// spoil overwrites all memory that a value of slices and structs reaches, up
// to the capacity of its slices.
func spoil(v reflect.Value) {
	switch v.Kind() {
	case reflect.Slice:
		v = v.Slice3(0, v.Cap(), v.Cap())
		for i := range v.Len() {
			spoil(v.Index(i))
		}
	case reflect.Struct:
		for i := range v.NumField() {
			spoil(v.Field(i))
		}
	case reflect.Int:
		if v.CanSet() {
			v.SetInt(-77)
		}
	}
}

// TestNothingShared is R4: no argument is changed, and no result shares memory
// with an argument.
func TestNothingShared(t *testing.T) {
	d := die{state: 4}
	for range 200 {
		a := d.args()
		before := a.clone()
		results := a.call()
		same := args{p: before.p, q: before.q, s: before.s, c: a.c, house: a.house, to: a.to, text: a.text}
		if !equalArgs(a, same) {
			t.Fatalf("%v became %v", before, a)
		}
		for _, r := range results {
			for _, x := range r.rest {
				spoil(reflect.ValueOf(x))
			}
		}
		if !equalArgs(a, same) {
			t.Fatalf("a result shares memory with an argument: %v became %v", before, a)
		}
	}
}

func equalArgs(a, b args) bool {
	ways := func(x, y api.Step) bool { return slices.Equal(x.Ways, y.Ways) }
	return samePlan(a.p, b.p) && samePlan(a.q, b.q) && samePlan(a.s.First, b.s.First) &&
		slices.EqualFunc(a.s.Steps, b.s.Steps, ways) && slices.Equal(a.s.Facts, b.s.Facts)
}

// TestResultsApart is R4: the slices of one result share no memory.
func TestResultsApart(t *testing.T) {
	s := story("1 2 3|4 5|6", "turn 0, swap 0, count 0; turn 1, swap 1, count 1; turn 2, swap 2", "")
	truths, _ := street.Truths(s)
	ends, _ := street.Ends(s)
	wanted, _ := street.Truths(s)
	due, _ := street.Ends(s)
	for i := range truths {
		spoil(reflect.ValueOf(truths[i]))
		for j := i + 1; j < len(truths); j++ {
			if !slices.Equal(truths[j], wanted[j]) {
				t.Fatalf("the truths %d and %d share memory", i, j)
			}
		}
	}
	for i := range ends {
		for j := range ends[i].Streets {
			spoil(reflect.ValueOf(ends[i].Streets[j]))
			for k := i; k < len(ends); k++ {
				for l := range ends[k].Streets {
					if (k > i || l > j) && !slices.Equal(ends[k].Streets[l], due[k].Streets[l]) {
						t.Fatalf("the ends %d and %d share memory", i, k)
					}
				}
			}
		}
	}
}

// TestEmpty is R4: nil and empty slices mean the same as arguments.
func TestEmpty(t *testing.T) {
	a := args{p: api.Plan{Streets: [][]api.Plate{nil, {}}}, q: api.Plan{Streets: [][]api.Plate{{}, nil}}, c: change("join 0 1")}
	if l, e := street.Guess(a.p, a.q); e != api.OK || len(l) != 0 {
		t.Errorf("plans without houses: %v, error %d", l, e)
	}
	mustBe(t, "no street", street.Check(api.Plan{Streets: [][]api.Plate{}}), api.ErrShort)
	s := api.Story{First: a.p, Steps: []api.Step{}, Facts: []api.Fact{}}
	if l, e := street.Truths(s); e != api.OK || len(l) != 1 || len(l[0]) != 0 {
		t.Errorf("empty steps and facts: %v, error %d", l, e)
	}
	_, e := street.Truths(api.Story{First: a.p, Steps: []api.Step{{Ways: []api.Change{}}}})
	mustBe(t, "empty ways", e, api.ErrShort)
}

// TestAnyValue is P1 and R5: each function returns, and does not panic,
// whatever its arguments are.
func TestAnyValue(t *testing.T) {
	numbers := []int{math.MinInt, -1, 0, 1, 2, 3, 8, 40, 41, math.MaxInt}
	d := die{state: 5}
	number := func() int { return numbers[d.throw(len(numbers))] }
	wild := func() api.Plate { return api.Plate{Number: number(), Letter: number()} }
	for i := range 3000 {
		a := d.args()
		if i%3 == 0 {
			a.p = api.Plan{Streets: make([][]api.Plate, d.throw(6))}
			for j := range a.p.Streets {
				for range d.throw(10) {
					a.p.Streets[j] = append(a.p.Streets[j], wild())
				}
			}
			a.s.First = a.p
		}
		a.c = api.Change{Kind: d.throw(9), Street: number(), Other: number(), From: wild(), To: wild()}
		a.house = api.Place{Street: number(), Plate: wild()}
		a.to = api.Place{Street: number(), Plate: wild()}
		if i%2 == 0 && len(a.s.Steps) > 0 {
			a.s.Steps[0].Ways[0] = a.c
		}
		if i%7 == 0 {
			a.s.Facts = append(a.s.Facts, api.Fact{From: a.house, To: a.to})
		}
		a.text = string([]byte{byte(d.throw(256)), byte(d.throw(256))}) + a.text
		a.call()
	}
	(args{}).call()
	(args{p: api.Plan{Streets: make([][]api.Plate, 1<<16)}, text: strings.Repeat("[", 1<<16)}).call()
	(args{p: api.Plan{Streets: [][]api.Plate{make([]api.Plate, 1<<16)}}}).call()
}
