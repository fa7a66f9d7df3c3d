package trade_test

import (
	"slices"
	"testing"

	"wayzgoose/api"
	"wayzgoose/trade"
)

// deep are six classes: a chain of four, one beside it, and one apart.
const deep = "class a; class b in a; class c in b; class d in c; class e in b; class f; " +
	"k is d; l is e; m is f; n also k; o see k; p is b"

// TestPath is about P4.1: all classes from the uppermost one.
func TestPath(t *testing.T) {
	for _, c := range []struct {
		t     string
		class int
		want  []int
	}{
		{exampleT, 3, []int{2, 3}},
		{exampleT, 0, []int{0}},
		{exampleT, 1, []int{0, 1}},
		{deep, 3, []int{0, 1, 2, 3}},
		{deep, 4, []int{0, 1, 4}},
		{deep, 5, []int{5}},
	} {
		l, e := trade.Path(list(c.t), c.class)
		if !slices.Equal(l, c.want) || e != api.OK {
			t.Errorf("%s, %d: %v, error %d, want %v", c.t, c.class, l, e, c.want)
		}
	}
}

// TestLeast is about P4.1: the least class that has both.
func TestLeast(t *testing.T) {
	for _, c := range []struct {
		t          string
		a, b, want int
	}{
		{exampleT, 1, 0, 0},
		{exampleT, 0, 1, 0},
		{exampleT, 1, 3, -1},
		{exampleT, 3, 3, 3},
		{deep, 3, 4, 1},
		{deep, 4, 2, 1},
		{deep, 3, 2, 2},
		{deep, 0, 3, 0},
		{deep, 5, 0, -1},
		{deep, 5, 5, 5},
	} {
		n, e := trade.Least(list(c.t), c.a, c.b)
		if n != c.want || e != api.OK {
			t.Errorf("%s, %d %d: %d, error %d, want %d", c.t, c.a, c.b, n, e, c.want)
		}
	}
}

// TestUnder is about P4.1: all trades under a class.
func TestUnder(t *testing.T) {
	for _, c := range []struct {
		t     string
		class int
		want  []int
	}{
		{exampleT, 0, []int{0, 2}},
		{exampleT, 3, []int{3}},
		{exampleT, 2, []int{3, 4}},
		{deep, 0, []int{0, 1, 5}},
		{deep, 1, []int{0, 1, 5}},
		{deep, 2, []int{0}},
		{deep, 4, []int{1}},
		{"class a; class b; k is b", 0, nil},
		{"class a", 0, nil},
	} {
		l, e := trade.Under(list(c.t), c.class)
		if !slices.Equal(l, c.want) || e != api.OK {
			t.Errorf("%s, %d: %v, error %d, want %v", c.t, c.class, l, e, c.want)
		}
	}
}

// TestPaths is P4.9: a class of a path is under all before it, and nothing else
// has the last one under it.
func TestPaths(t *testing.T) {
	d := die{state: 49}
	for range 2000 {
		given := d.someTrades(3)
		for class := range given.Classes {
			l, e := trade.Path(given, class)
			if e != api.OK || len(l) == 0 || l[len(l)-1] != class {
				t.Fatalf("%v, %d: %v, error %d", given, class, l, e)
			}
			for i, c := range l {
				for _, before := range l[:i] {
					if !isUnder(given, c, before) || c == before {
						t.Fatalf("%v, %d: %v, of which %d is not under %d", given, class, l, c, before)
					}
				}
			}
			for other := range given.Classes {
				if isUnder(given, class, other) != slices.Contains(l, other) {
					t.Fatalf("%v, %d: %v, and %d", given, class, l, other)
				}
			}
		}
	}
}

// TestLeastClass is P4.10: the least class has both under it, and every other
// class that has both has it, too. All classes are tried.
func TestLeastClass(t *testing.T) {
	d := die{state: 410}
	for range 2000 {
		given := d.someTrades(3)
		for a := range given.Classes {
			for b := range given.Classes {
				least, e := trade.Least(given, a, b)
				mustBe(t, "Least", e, api.OK)
				if least != -1 && (!isUnder(given, a, least) || !isUnder(given, b, least)) {
					t.Fatalf("%v, %d %d: %d", given, a, b, least)
				}
				for other := range given.Classes {
					both := isUnder(given, a, other) && isUnder(given, b, other)
					if both && (least == -1 || !isUnder(given, least, other)) {
						t.Fatalf("%v, %d %d: %d, and %d has both", given, a, b, least, other)
					}
				}
			}
		}
	}
}

// TestAllUnder is about P4.1: Under has a trade just if its class is under the
// class.
func TestAllUnder(t *testing.T) {
	d := die{state: 401}
	for range 2000 {
		given := d.someTrades(6)
		for class := range given.Classes {
			var want []int
			for i, h := range given.Heads {
				if h.Class != -1 && isUnder(given, h.Class, class) {
					want = append(want, i)
				}
			}
			if l, e := trade.Under(given, class); !slices.Equal(l, want) || e != api.OK {
				t.Fatalf("%v, %d: %v, error %d, want %v", given, class, l, e, want)
			}
		}
	}
}
