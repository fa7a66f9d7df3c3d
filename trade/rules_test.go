package trade_test

import (
	"fmt"
	"math"
	"reflect"
	"slices"
	"strings"
	"sync"
	"testing"

	"wayzgoose/api"
	"wayzgoose/trade"
)

// args are arguments for all functions of the package.
type args struct {
	t, u        api.Trades
	a, b        int
	head, steps int
	beginning   string
	text        string
}

// result is what a call returned: its error, and all else.
type result struct {
	e    api.Errno
	rest []any
}

// functions is how many there are; functionRead is the number of Read, whose
// line is no zero value with some errors.
const (
	functions    = 16
	functionRead = functions - 1
)

// call calls all functions.
func (a args) call() []result {
	var l []result
	add := func(e api.Errno, rest ...any) { l = append(l, result{e, rest}) }
	add(trade.Check(a.t))
	path, e := trade.Path(a.t, a.a)
	add(e, path)
	least, e := trade.Least(a.t, a.a, a.b)
	add(e, least)
	under, e := trade.Under(a.t, a.a)
	add(e, under)
	end, many, e := trade.Follow(a.t, a.head)
	add(e, end, many)
	circles, e := trade.Circles(a.t)
	add(e, circles)
	steps, e := trade.Steps(a.t, a.head)
	add(e, steps)
	hidden, e := trade.Hidden(a.t, a.head, a.steps)
	add(e, hidden)
	join, e := trade.Join(a.t, a.head, a.steps)
	add(e, join)
	may, e := trade.May(a.t, a.beginning)
	add(e, may)
	means, e := trade.Means(a.t, a.beginning, a.head)
	add(e, means)
	short, e := trade.Short(a.t, a.head)
	add(e, short)
	drop, e := trade.Drop(a.t, a.head)
	add(e, drop)
	moves, e := trade.Compare(a.t, a.u)
	add(e, moves)
	text, e := trade.Write(a.t)
	add(e, text)
	read, _, e := trade.Read(a.text)
	add(e, read)
	return l
}

// args returns valid arguments.
func (d *die) args() args {
	a := args{t: d.someTrades(5)}
	a.u = d.other(a.t)
	a.a, a.b = d.throw(len(a.t.Classes)), d.throw(len(a.t.Classes))
	a.head, a.steps = d.throw(len(a.t.Heads)), d.throw(4)
	word := a.t.Heads[d.throw(len(a.t.Heads))].Word
	a.beginning = word[:d.throw(len(word)+1)]
	a.text, _ = trade.Write(a.u)
	return a
}

// spoiled returns arguments some of which are not valid.
func (d *die) spoiled() args {
	a := d.args()
	switch d.throw(9) {
	case 0:
		a.t.Classes[a.a].Under = a.a
	case 1:
		a.t.Heads[a.head].See = a.head
	case 2:
		a.a = -1
	case 3:
		a.b = len(a.t.Classes)
	case 4:
		a.head = len(a.t.Heads)
	case 5:
		a.steps = 7
	case 6:
		a.u.Classes = append(a.u.Classes, api.Class{})
	case 7:
		a.text = a.text[1:]
	}
	return a
}

// roomy returns the same arguments, in slices that have more capacity than they
// need, with memory behind their ends that must not change.
func (a args) roomy() args {
	b := a
	for _, t := range []*api.Trades{&b.t, &b.u} {
		t.Classes = append(slices.Clone(t.Classes), api.Class{Name: "z"}, api.Class{Name: "z"})[:len(t.Classes)]
		t.Heads = append(slices.Clone(t.Heads), api.Head{Word: "z"}, api.Head{Word: "z"})[:len(t.Heads)]
		for i := range t.Heads {
			h := &t.Heads[i]
			h.Also = append(slices.Clone(h.Also), 77, 77)[:len(h.Also)]
		}
	}
	return b
}

// TestSameAgain is R2 and R6: a call returns the same again, whatever was
// called before, and in goroutines too.
func TestSameAgain(t *testing.T) {
	d := die{state: 2}
	var all []args
	var first [][]result
	for range 100 {
		a := d.args()
		all = append(all, a)
		first = append(first, a.call())
	}
	var wait sync.WaitGroup
	for i := range all {
		at := len(all) - 1 - i
		wait.Go(func() {
			if !reflect.DeepEqual(all[at].call(), first[at]) {
				t.Errorf("%v: another result", all[at])
			}
		})
	}
	wait.Wait()
}

// TestZeroWithErrors is R3: with an error all other results are zero values.
func TestZeroWithErrors(t *testing.T) {
	d := die{state: 3}
	met := map[int]bool{}
	for range 3000 {
		a := d.spoiled()
		for i, r := range a.call() {
			if r.e == api.OK {
				continue
			}
			met[i] = true
			for _, x := range r.rest {
				if !isZero(x) {
					t.Fatalf("%v, function %d: error %d with %v", a, i, r.e, x)
				}
			}
		}
	}
	if len(met) != functions {
		t.Errorf("errors of %d functions", len(met))
	}
}

// spoil overwrites all memory that a value of slices and structs reaches, up to
// the capacity of its slices.
func spoil(v reflect.Value) {
	switch v.Kind() {
	case reflect.Slice:
		v = v.Slice3(0, v.Cap(), v.Cap())
		for i := range v.Len() {
			spoil(v.Index(i))
		}
	case reflect.Struct:
		for i := range v.NumField() {
			spoil(v.Field(i))
		}
	case reflect.Int:
		if v.CanSet() {
			v.SetInt(-77)
		}
	case reflect.String:
		if v.CanSet() {
			v.SetString("spoiled")
		}
	}
}

// full returns trades with all that their slices have behind their ends.
func full(t api.Trades) api.Trades {
	u := api.Trades{Classes: t.Classes[:cap(t.Classes)], Heads: slices.Clone(t.Heads[:cap(t.Heads)])}
	for i, h := range u.Heads {
		u.Heads[i].Also = h.Also[:cap(h.Also)]
	}
	return u
}

func equalArgs(a, b args) bool { return same(full(a.t), full(b.t)) && same(full(a.u), full(b.u)) }

// TestNothingShared is R4: no argument is changed, and no result shares memory
// with an argument, or with one of another call.
func TestNothingShared(t *testing.T) {
	d := die{state: 4}
	for range 500 {
		a := d.args()
		given, copied := a.roomy(), a.roomy()
		results := given.call()
		if !equalArgs(given, copied) {
			t.Fatalf("%v became %v", copied, given)
		}
		for _, r := range results {
			for _, x := range r.rest {
				spoil(reflect.ValueOf(x))
			}
		}
		if !equalArgs(given, copied) {
			t.Fatalf("a result shares memory with an argument: %v became %v", copied, given)
		}
		if !reflect.DeepEqual(given.call(), copied.call()) {
			t.Fatalf("%v: a result shares memory with one of another call", a)
		}
	}
}

// TestResultsApart is R4: the slices of one result share no memory.
func TestResultsApart(t *testing.T) {
	for _, call := range []func() [][]int{
		func() [][]int { l, _ := trade.Circles(list(rings)); return l },
		func() [][]int { l, _ := trade.Join(list(exampleT), 4, 1); return l },
		func() [][]int {
			u, _ := trade.Drop(list("class x; a is x; b is x also c d e; c is x also b d e; d is x also b c e; e is x"), 0)
			return [][]int{u.Heads[0].Also, u.Heads[1].Also, u.Heads[2].Also}
		},
	} {
		l, want := call(), call()
		for i := range l {
			spoil(reflect.ValueOf(l[i]))
			for j := i + 1; j < len(l); j++ {
				if !slices.Equal(l[j], want[j]) {
					t.Fatalf("%v: %d and %d share memory", want, i, j)
				}
			}
		}
	}
}

// TestEmpty is R4: nil and empty slices mean the same as arguments.
func TestEmpty(t *testing.T) {
	none := api.Trades{Heads: []api.Head{{Word: "a", Class: -1, See: 1}, {Word: "b", Class: -1, See: 0}}}
	empty := clone(none)
	empty.Classes = []api.Class{}
	for i := range empty.Heads {
		empty.Heads[i].Also = []int{}
	}
	mustBe(t, "pointers", trade.Check(none), api.OK)
	mustBeAlike(t, none, empty)
	mustBeAlike(t, api.Trades{}, api.Trades{Classes: []api.Class{}, Heads: []api.Head{}})
}

// mustBeAlike fails if any function tells two trades apart. As a string a nil
// slice is the same as an empty one.
func mustBeAlike(t *testing.T, a, b api.Trades) {
	t.Helper()
	x, y := fmt.Sprint(args{t: a, u: b}.call()), fmt.Sprint(args{t: b, u: a}.call())
	if x != y {
		t.Errorf("%s and %s", x, y)
	}
}

// TestAnyValue is P1 and R5: each function returns, and does not panic,
// whatever its arguments are.
func TestAnyValue(t *testing.T) {
	d := die{state: 5}
	numbers := []int{math.MinInt, -2, -1, 0, 1, 2, 5, 6, 7, 63, 64, math.MaxInt}
	number := func() int { return numbers[d.throw(len(numbers))] }
	wild := func() string {
		s := []string{"", " ", "a", "class", "finis", "\n", "see", "é", "\xff", "class x\n", "finis\n"}[d.throw(11)]
		for range d.throw(3) {
			s += string([]byte{byte(d.throw(256))})
		}
		return s
	}
	for range 20000 {
		a := d.args()
		a.head, a.steps, a.a, a.b = number(), number(), number(), number()
		if d.throw(2) == 0 {
			a.head, a.a = d.throw(len(a.t.Heads)), d.throw(len(a.t.Classes))
		}
		switch h := &a.t.Heads[d.throw(len(a.t.Heads))]; d.throw(8) {
		case 0:
			h.Word = wild()
		case 1:
			h.Class, h.See = number(), number()
		case 2:
			h.Also = append(h.Also, number(), number())
		case 3:
			a.t.Classes[0].Under = number()
		case 4:
			a.t.Heads = append(a.t.Heads, api.Head{Word: wild(), Class: number(), See: number(), Also: []int{number()}})
		case 5:
			a.u.Classes = append(a.u.Classes, api.Class{Name: wild(), Under: number()})
		}
		at := d.throw(len(a.text))
		a.beginning, a.text = wild(), a.text[:at]+wild()+a.text[at:]
		a.call()
	}
	(args{}).call()
	long := strings.Repeat("a", 1<<16)
	(args{beginning: long, text: long}).call()
	(args{t: api.Trades{Classes: make([]api.Class, 1<<16)}, u: api.Trades{Heads: make([]api.Head, 1<<16)}}).call()
	(args{t: api.Trades{Classes: []api.Class{{Name: long, Under: -1}}}}).call()
	(args{t: api.Trades{Heads: []api.Head{{Word: "a", Class: -1, See: -1, Also: make([]int, 1<<16)}}}}).call()
}
