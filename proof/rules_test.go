package proof_test

import (
	"math"
	"reflect"
	"slices"
	"strings"
	"sync"
	"testing"

	"wayzgoose/api"
	"wayzgoose/proof"
)

// args are arguments for all functions of the package.
type args struct {
	page, other []string
	l, m        []api.Mark
	most        int
	years       [][]string
	slip        string
}

// result is what a call returned: its error, and all else.
type result struct {
	e    api.Errno
	rest []any
}

const functions = 13

// call calls all functions.
func (a args) call() []result {
	var l []result
	add := func(e api.Errno, rest ...any) { l = append(l, result{e, rest}) }
	add(proof.Check(a.page))
	page, e := proof.Apply(a.page, a.l)
	add(e, page)
	cost, e := proof.Cost(a.page, a.l)
	add(e, cost)
	merged, e := proof.Merge(a.page, a.l, a.m)
	add(e, merged)
	marks, e := proof.Diff(a.page, a.other)
	add(e, marks)
	steps, e := proof.Steps(a.page, a.l, a.most)
	add(e, steps)
	origin, e := proof.Origin(a.years, a.page)
	add(e, origin)
	back, e := proof.Back(a.years, a.page)
	add(e, back)
	stock, e := proof.Stock(a.years)
	add(e, stock)
	fresh, e := proof.Fresh(a.years, a.page)
	add(e, fresh)
	flaw, e := proof.Look(a.years, a.l, a.other)
	add(e, flaw)
	slip, e := proof.Write(a.l)
	add(e, slip)
	// Read alone returns a number with an error.
	read, at, e := proof.Read(a.slip)
	if e == api.ErrForm {
		add(e, read)
	} else {
		add(e, read, at)
	}
	return l
}

// args returns valid arguments, for which nearly all functions have a result.
func (d *die) args() args {
	a := args{page: d.page(api.MaxLines)}
	a.other = d.near(a.page)
	for {
		a.l, a.m = d.marks(a.page, api.MaxOrder), d.marks(a.page, api.MaxOrder)
		if _, e := proof.Merge(a.page, a.l, a.m); e == api.OK && len(made(a.page, a.l)) <= api.MaxLines {
			break
		}
	}
	a.most = 2 * api.MaxLines
	a.years = append(d.years(api.MaxYears-1), slices.Clone(a.page))
	a.slip, _ = proof.Write(a.m)
	return a
}

// spoiled returns arguments some of which are not valid.
func (d *die) spoiled() args {
	a := d.args()
	switch d.throw(8) {
	case 0:
		a.page = append([]string{""}, a.page...)
	case 1:
		a.other = append(a.other, "A")
	case 2:
		a.l = append(a.l, api.Mark{})
	case 3:
		a.m = append(a.m, api.Mark{Kind: api.MarkOut, At: 6})
	case 4:
		a.most = -1
	case 5:
		a.years = append(a.years, []string{"A"})
	case 6:
		a.slip += "+"
	case 7:
		a.slip = strings.Repeat("-5/", 13)
	}
	return a
}

// roomy returns a copy of a list with memory behind its end.
func roomy[T any](l []T) []T { return slices.Grow(slices.Clone(l), 2) }

// clone returns arguments that share nothing with those of a, in slices that
// have more capacity than they need.
func (a args) clone() args {
	a.page, a.other, a.l, a.m, a.years = roomy(a.page), roomy(a.other), roomy(a.l), roomy(a.m), roomy(a.years)
	for i, page := range a.years {
		a.years[i] = roomy(page)
	}
	return a
}

// full returns arguments with all that their slices have behind their ends.
func (a args) full() args {
	a.page, a.other, a.l, a.m = a.page[:cap(a.page)], a.other[:cap(a.other)], a.l[:cap(a.l)], a.m[:cap(a.m)]
	a.years = slices.Clone(a.years[:cap(a.years)])
	for i, page := range a.years {
		a.years[i] = page[:cap(page)]
	}
	return a
}

// TestSameAgain is R2 and R6: a call returns the same again, whatever was called
// before, and in goroutines too.
func TestSameAgain(t *testing.T) {
	d := die{state: 2}
	var all []args
	var first [][]result
	for range 1000 {
		a := d.args()
		all = append(all, a)
		first = append(first, a.call())
	}
	var wait sync.WaitGroup
	for i := range all {
		at := len(all) - 1 - i
		wait.Go(func() {
			for range 5 {
				if !reflect.DeepEqual(all[at].call(), first[at]) {
					t.Errorf("%v: another result", all[at])
				}
			}
		})
	}
	wait.Wait()
}

// TestZeroWithErrors is R3: with an error all other results are zero values.
func TestZeroWithErrors(t *testing.T) {
	d := die{state: 3}
	met := map[int]bool{}
	for range 2000 {
		a := d.spoiled()
		for i, r := range a.call() {
			if r.e == api.OK {
				continue
			}
			met[i] = true
			for _, x := range r.rest {
				if !isZero(x) {
					t.Fatalf("%v, function %d: error %d with %v", a, i, r.e, x)
				}
			}
		}
	}
	if len(met) != functions {
		t.Errorf("errors of %d functions", len(met))
	}
}

// spoil overwrites all memory that a value of slices and structs reaches, up to
// the capacity of its slices.
func spoil(v reflect.Value) {
	switch v.Kind() {
	case reflect.Slice:
		v = v.Slice3(0, v.Cap(), v.Cap())
		for i := range v.Len() {
			spoil(v.Index(i))
		}
	case reflect.Struct:
		for i := range v.NumField() {
			spoil(v.Field(i))
		}
	case reflect.Int:
		if v.CanSet() {
			v.SetInt(-77)
		}
	case reflect.String:
		if v.CanSet() {
			v.SetString("spoiled")
		}
	}
}

// TestNothingShared is R4: no argument is changed, and no result shares memory
// with an argument, or with one of another call.
func TestNothingShared(t *testing.T) {
	d := die{state: 4}
	for range 1000 {
		a := d.args()
		given, copied := a.clone(), a.clone()
		results := given.call()
		if !reflect.DeepEqual(given.full(), copied.full()) {
			t.Fatalf("%v became %v", copied, given)
		}
		for _, r := range results {
			for _, x := range r.rest {
				spoil(reflect.ValueOf(x))
			}
		}
		if !reflect.DeepEqual(given.full(), copied.full()) {
			t.Fatalf("a result shares memory with an argument: %v became %v", copied, given)
		}
		if !reflect.DeepEqual(given.call(), copied.call()) {
			t.Fatalf("%v: a result shares memory with one of another call", a)
		}
	}
}

// TestEmpty is R4: nil and empty slices mean the same as arguments.
func TestEmpty(t *testing.T) {
	for _, all := range [][2][][]string{{nil, {}}, {{nil, nil}, {{}, {}}}} {
		none := args{years: all[0]}
		empty := args{page: []string{}, other: []string{}, l: []api.Mark{}, m: []api.Mark{}, years: all[1]}
		a, b := none.call(), empty.call()
		for i := range a {
			if a[i].e != b[i].e {
				t.Errorf("function %d: errors %d and %d", i, a[i].e, b[i].e)
			}
			for j := range a[i].rest {
				if !isZero(a[i].rest[j]) || !isZero(b[i].rest[j]) {
					t.Errorf("function %d: %v and %v", i, a[i], b[i])
				}
			}
		}
	}
}

// TestAnyValue is P1 and R5: each function returns, and does not panic, whatever
// its arguments are.
func TestAnyValue(t *testing.T) {
	d := die{state: 5}
	number := func() int {
		return pick(&d, math.MinInt, -2, -1, 0, 1, 2, 3, 4, 5, 6, 7, 12, 13, 99, 100, math.MaxInt)
	}
	wild := func() string {
		return pick(&d, "", " ", "a", "Anna", "é", "\xff", "+1 a", "/", "//", "+", "=1", "-", "-5/", "+1 a/\xff/", strings.Repeat("-5/", 1<<10), strings.Repeat("a", 1<<10))
	}
	mark := func() api.Mark {
		return api.Mark{Kind: pick(&d, api.MarkIn, api.MarkSet, api.MarkOut, number()), At: number(), Text: wild()}
	}
	for range 5000 {
		a := d.args()
		a.most, a.slip = number(), pick(&d, wild(), wild()+wild(), a.slip+wild())
		switch d.throw(6) {
		case 0:
			a.page = append(a.page, wild())
		case 1:
			a.other = append(a.other, wild())
		case 2:
			a.l = append(a.l, mark())
		case 3:
			a.m = append([]api.Mark{mark()}, a.m...)
		case 4:
			a.years = append(a.years, []string{wild()})
		case 5:
			a.page, a.years = nil, nil
		}
		a.call()
	}
	(args{}).call()
	many, marks := make([]string, 1<<16), make([]api.Mark, 1<<16)
	(args{page: many, other: many, l: marks, m: marks, years: make([][]string, 1<<16)}).call()
	(args{page: []string{"a"}, other: []string{"a"}, l: marks, m: marks, years: [][]string{{"a"}, many}}).call()
}
