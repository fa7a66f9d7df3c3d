package trade_test

import (
	"slices"
	"strings"
	"testing"

	"wayzgoose/api"
	"wayzgoose/trade"
)

// TestSteps is about P4.3: in how many steps each heading is found.
func TestSteps(t *testing.T) {
	for _, c := range []struct {
		t    string
		head int
		want []int
	}{
		{exampleT, 4, []int{-1, -1, -1, 1, 0, -1}},
		{exampleT, 5, []int{-1, 1, -1, 2, -1, 0}},
		{exampleT, 2, []int{1, -1, 0, -1, -1, -1}},
		{"class x; a is x", 0, []int{0}},
		{"a see b; b see a", 0, []int{0, 1}},
		{"class x; a also b c; b see d; c also d e; d is x; e is x also a", 0, []int{0, 1, 1, 2, 2}},
		{"class x; a also b c; b see d; c also d e; d is x; e is x also a", 4, []int{1, 2, 2, 3, 0}},
		{"class x; a see b; b see c; c also d; d also e; e also f; f is x", 0, []int{0, 1, 2, 3, 4, 5}},
	} {
		l, e := trade.Steps(list(c.t), c.head)
		if !slices.Equal(l, c.want) || e != api.OK {
			t.Errorf("%s, %d: %v, error %d, want %v", c.t, c.head, l, e, c.want)
		}
	}
}

// TestHidden is about P4.3: the trades that are not found in so many steps, and
// the errors of Hidden in their order.
func TestHidden(t *testing.T) {
	chain := "class x; a is x also b; b is x also c; c is x also d; d also e; e is x also f; f is x"
	for _, c := range []struct {
		t           string
		head, steps int
		want        []int
		e           api.Errno
	}{
		{exampleT, 4, 1, []int{0, 2}, api.OK},
		{exampleT, 4, 0, []int{0, 2, 3}, api.OK},
		{exampleT, 5, 1, []int{0, 2, 3, 4}, api.OK},
		{exampleT, 5, 2, []int{0, 2, 4}, api.OK},
		{exampleT, 5, 6, []int{0, 2, 4}, api.OK},
		{exampleT, 5, 7, nil, api.ErrRange},
		{exampleT, 5, -1, nil, api.ErrRange},
		{exampleT, 6, -1, nil, api.ErrNoSuch},
		{chain, 0, 0, []int{1, 2, 4, 5}, api.OK},
		{chain, 0, 3, []int{4, 5}, api.OK},
		{chain, 0, 4, []int{5}, api.OK},
		{chain, 0, 5, nil, api.OK},
		{chain, 3, 1, []int{0, 1, 2, 5}, api.OK},
	} {
		l, e := trade.Hidden(list(c.t), c.head, c.steps)
		if !slices.Equal(l, c.want) || e != c.e {
			t.Errorf("%s, %d %d: %v, error %d, want %v, error %d", c.t, c.head, c.steps, l, e, c.want, c.e)
		}
	}
}

// pairs returns references, with a space between each two numbers.
func pairs(text string) [][]int {
	var l [][]int
	for i, word := range strings.Fields(text) {
		if i%2 == 0 {
			l = append(l, nil)
		}
		l[i/2] = append(l[i/2], int(word[0]-'0'))
	}
	return l
}

// TestJoin is about P4.4: the fewest references that have to be added, and the
// errors of Join in their order.
func TestJoin(t *testing.T) {
	six := "class x; a is x; b is x; c is x; d is x; e is x; f is x"
	for _, c := range []struct {
		t           string
		head, steps int
		want        string
		e           api.Errno
	}{
		{exampleT, 4, 1, "4 0 4 2", api.OK},
		{exampleT, 4, 2, "4 2", api.OK},
		{exampleT, 3, 2, "2 4 3 2", api.OK},
		{exampleT, 5, 2, "", api.ErrNone},
		{exampleT, 5, 3, "3 0 3 2 3 4", api.OK},
		{exampleT, 4, 7, "", api.ErrRange},
		{exampleT, 4, -1, "", api.ErrRange},
		{exampleT, -1, -1, "", api.ErrNoSuch},
		{exampleT, 4, 0, "", api.ErrNone},
		{exampleCircle, 5, 6, "", api.ErrNone},
		{exampleCircle, 4, 2, "4 2", api.OK},
		{six, 5, 1, "5 0 5 1 5 2 5 3 5 4", api.OK},
		{six, 5, 6, "0 1 0 2 0 3 0 4 5 0", api.OK},
		{six, 0, 1, "0 1 0 2 0 3 0 4 0 5", api.OK},
		{"class x; a is x", 0, 0, "", api.OK},
		{"a also b; b also a", 1, 0, "", api.OK},
		{"class x; a is x; b is x", 0, 0, "", api.ErrNone},
		// A reference to a heading that is found already.
		{"class x; a is x also b; b is x also c; c is x also d; d is x", 0, 2, "0 2", api.OK},
		// References from what is no trade, and to a pointer.
		{"class x; a also b; b also a; c is x", 1, 2, "0 2", api.OK},
		{"class x; a is x; b see d; c see b; d is x also e; e is x", 0, 4, "0 1", api.OK},
		{"class x; a is x; b see d; c see b; d is x also e; e is x", 0, 2, "0 3", api.OK},
		{"class x; a see b; b see c; c is x; d is x; e is x", 0, 3, "2 3 2 4", api.OK},
		{"class x; a see b; b see c; c is x; d is x; e is x", 0, 2, "", api.ErrNone},
		{"class x; a see b; b see c; c is x", 0, 1, "", api.ErrNone},
		{"class x; a see b; b see c; c is x", 0, 2, "", api.OK},
		// The last list of five references is the only one.
		{"class x; a is x also b; b is x also c; c is x also d; d is x also e; e is x also a; f is x", 5, 1, "5 0 5 1 5 2 5 3 5 4", api.OK},
	} {
		l, e := trade.Join(list(c.t), c.head, c.steps)
		if !sameLists(l, pairs(c.want)) || e != c.e {
			t.Errorf("%s, %d %d: %v, error %d, want %v, error %d", c.t, c.head, c.steps, l, e, c.want, c.e)
		}
	}
}

// TestAllSteps is P4.13: a heading is found in n steps just if one that is
// found in n - 1 steps refers to it, and none that is found in fewer.
func TestAllSteps(t *testing.T) {
	d := die{state: 413}
	met := map[int]int{}
	for range 3000 {
		given := d.someTrades(6)
		for i := range given.Heads {
			steps, e := trade.Steps(given, i)
			if e != api.OK || len(steps) != len(given.Heads) || steps[i] != 0 {
				t.Fatalf("%v, %d: %v, error %d", given, i, steps, e)
			}
			for to, n := range steps {
				least := -1
				for from, h := range given.Heads {
					refers := h.See == to || slices.Contains(h.Also, to)
					if refers && steps[from] != -1 && (least == -1 || steps[from] < least) {
						least = steps[from]
					}
				}
				if to != i && (least == -1) != (n == -1) || to != i && n != -1 && n != least+1 || to != i && n == 0 {
					t.Fatalf("%v, %d: %v, wrong for %d", given, i, steps, to)
				}
				met[n]++
			}
		}
	}
	for n := -1; n < 5; n++ {
		if met[n] < 20 {
			t.Errorf("%d steps only %d times", n, met[n])
		}
	}
}

// TestAllHidden is about P4.3: what is hidden from any heading, with any number
// of steps.
func TestAllHidden(t *testing.T) {
	d := die{state: 403}
	for range 1000 {
		given := d.someTrades(6)
		for i := range given.Heads {
			for steps := range api.MaxHeads + 1 {
				want := hiddenFrom(given, i, steps)
				if l, e := trade.Hidden(given, i, steps); !slices.Equal(l, want) || e != api.OK {
					t.Fatalf("%v, %d %d: %v, error %d, want %v", given, i, steps, l, e, want)
				}
			}
		}
	}
}

// TestAllFound is P4.14: with the references of Join no trade is hidden, with
// fewer, or with a list that comes before, one is. All lists are tried.
func TestAllFound(t *testing.T) {
	d := die{state: 414}
	met := map[int]int{}
	for range 400 {
		given := d.someTrades(5)
		at, steps := d.throw(len(given.Heads)), d.throw(4)
		can := canBeAdded(given)
		found := func(l [][]int) bool { return len(hiddenFrom(added(given, l), at, steps)) == 0 }
		var want [][]int
		ok := found(can)
		for n := 0; ok; n++ {
			if l, good := subsets(can, n, found); good {
				want = l
				break
			}
		}
		l, e := trade.Join(given, at, steps)
		if !sameLists(l, want) || (e == api.OK) != ok || !ok && e != api.ErrNone {
			t.Fatalf("%v, %d %d: %v, error %d, want %v", given, at, steps, l, e, want)
		}
		if ok {
			met[len(l)]++
		}
	}
	for n := range 4 {
		if met[n] < 10 {
			t.Errorf("%d references only %d times", n, met[n])
		}
	}
}

// TestSixFound is P4.14 for six headings: the references of Join can be added,
// are in their order, hide nothing, and none of them is needless.
func TestSixFound(t *testing.T) {
	d := die{state: 6}
	for range 1000 {
		given := d.someTrades(6)
		at, steps := d.throw(len(given.Heads)), d.throw(7)
		l, e := trade.Join(given, at, steps)
		if e != api.OK {
			if len(hiddenFrom(added(given, canBeAdded(given)), at, steps)) == 0 {
				t.Fatalf("%v, %d %d: error %d", given, at, steps, e)
			}
			continue
		}
		for _, p := range l {
			if !slices.ContainsFunc(canBeAdded(given), func(q []int) bool { return slices.Equal(p, q) }) {
				t.Fatalf("%v, %d %d: %v can't be added", given, at, steps, p)
			}
		}
		if !slices.IsSortedFunc(l, comparePairs) || len(hiddenFrom(added(given, l), at, steps)) > 0 {
			t.Fatalf("%v, %d %d: %v", given, at, steps, l)
		}
		for i := range l {
			if len(hiddenFrom(added(given, slices.Concat(l[:i], l[i+1:])), at, steps)) == 0 {
				t.Fatalf("%v, %d %d: %v, one of which is needless", given, at, steps, l)
			}
		}
	}
}

// TestMoreReferences is P4.15: with a reference more no trade is hidden that
// was not, and nothing takes more steps.
func TestMoreReferences(t *testing.T) {
	d := die{state: 415}
	for range 500 {
		given := d.someTrades(6)
		at, most := d.throw(len(given.Heads)), d.throw(7)
		steps, _ := trade.Steps(given, at)
		hidden, _ := trade.Hidden(given, at, most)
		for _, p := range canBeAdded(given) {
			more := added(given, [][]int{p})
			after, e := trade.Steps(more, at)
			mustBe(t, "Steps", e, api.OK)
			for i, n := range after {
				if steps[i] != -1 && (n == -1 || n > steps[i]) {
					t.Fatalf("%v, %d: %v, with %v: %v", given, at, steps, p, after)
				}
			}
			still, _ := trade.Hidden(more, at, most)
			for _, i := range still {
				if !slices.Contains(hidden, i) {
					t.Fatalf("%v, %d: %v, with %v: %v", given, at, hidden, p, still)
				}
			}
		}
	}
}
