package trade_test

import (
	"slices"
	"strings"
	"testing"

	"wayzgoose/api"
	"wayzgoose/trade"
)

// checks are trades and their first errors.
func checks() []struct {
	t    api.Trades
	want api.Errno
} {
	three := "class x; class y; aa is x; bb is x; cc is y also aa bb"
	return []struct {
		t    api.Trades
		want api.Errno
	}{
		{list(exampleT), api.OK},
		{list(exampleU), api.OK},
		{list(""), api.OK},
		{list("class x; class y in x; class z in x"), api.OK},
		{list("a also b; b also a"), api.OK},
		{list("a see b; b see a"), api.OK},
		{list("class a; class b; class c; class d; class e; class f; a is a; b is b; c is c; d is d; e is e; f is f"), api.OK},
		{list("class a; class b; class c; class d; class e; class f; class g"), api.ErrFull},
		{list("class x; a is x; b is x; c is x; d is x; e is x; f is x; g is x"), api.ErrFull},
		{changed(three, func(t *api.Trades) { t.Classes[0].Name = ""; t.Heads = make([]api.Head, 7) }), api.ErrFull},
		// Classes
		{changed(three, func(t *api.Trades) { t.Classes[0].Name = "" }), api.ErrForm},
		{changed(three, func(t *api.Trades) { t.Classes[1].Name = "" }), api.ErrForm},
		{list("class class"), api.ErrForm},
		{list("class finis"), api.ErrForm},
		{list("class abcdefghijkl"), api.OK},
		{list("class abcdefghijklm"), api.ErrForm},
		{list("class az; class za"), api.OK},
		{list("class a-b"), api.ErrForm},
		{list("class Ab"), api.ErrForm},
		{list("class a`"), api.ErrForm},
		{list("class a{"), api.ErrForm},
		{list("class a1"), api.ErrForm},
		{list("class é"), api.ErrForm},
		{list("class a\xff"), api.ErrForm},
		{changed("class x", func(t *api.Trades) { t.Classes[0].Name = "a b" }), api.ErrForm},
		{list("class x; class x in nobody"), api.ErrRepeated},
		{list("class x; class y; class x"), api.ErrRepeated},
		{list("class x in nobody; class 1"), api.ErrNoSuch},
		{changed(three, func(t *api.Trades) { t.Classes[1].Under = 2 }), api.ErrNoSuch},
		{changed(three, func(t *api.Trades) { t.Classes[1].Under = -2 }), api.ErrNoSuch},
		{list("class x in self; class 1"), api.ErrOrder},
		{list("class x in y; class y"), api.ErrOrder},
		{list("class x in y; class y in nobody"), api.ErrOrder},
		{list("class x in self; A is x"), api.ErrOrder},
		// Headings
		{changed(three, func(t *api.Trades) { t.Heads[2].Word = "" }), api.ErrForm},
		{changed(three, func(t *api.Trades) { t.Heads[2].Word = "class" }), api.ErrForm},
		{changed(three, func(t *api.Trades) { t.Heads[2].Word = "finis" }), api.ErrForm},
		{changed(three, func(t *api.Trades) { t.Heads[2].Word = "cccccccccccc" }), api.OK},
		{changed(three, func(t *api.Trades) { t.Heads[2].Word = "ccccccccccccc" }), api.ErrForm},
		{changed(three, func(t *api.Trades) { t.Heads[2].Word = "c." }), api.ErrForm},
		{list("class x; b is x; b is x"), api.ErrRepeated},
		{list("class x; b is x; a is x; b is nobody"), api.ErrOrder},
		{list("class x; b is x; c is x; b is nobody"), api.ErrRepeated},
		{list("class x; b is x; a is nobody"), api.ErrOrder},
		{list("class x; ab is x; a is x"), api.ErrOrder},
		{list("class x; a is x; ab is x"), api.OK},
		{list("class x; a is nobody see nobody"), api.ErrNoSuch},
		{changed(three, func(t *api.Trades) { t.Heads[1].Class = 2 }), api.ErrNoSuch},
		{changed(three, func(t *api.Trades) { t.Heads[1].Class = -2 }), api.ErrNoSuch},
		{changed(three, func(t *api.Trades) { t.Heads[1].See = 3 }), api.ErrNoSuch},
		{changed(three, func(t *api.Trades) { t.Heads[1].See = -2 }), api.ErrNoSuch},
		{list("class x; a is x see self also nobody"), api.ErrClash},
		{list("class x; a is nobody see self"), api.ErrNoSuch},
		{list("class x; a is x also nobody self"), api.ErrNoSuch},
		{list("class x; a is x also self nobody"), api.ErrClash},
		{changed(three, func(t *api.Trades) { t.Heads[2].Also = []int{1, 0, 3} }), api.ErrOrder},
		{changed(three, func(t *api.Trades) { t.Heads[2].Also = []int{0, 0} }), api.ErrOrder},
		{changed(three, func(t *api.Trades) { t.Heads[2].Also = []int{0, 3} }), api.ErrNoSuch},
		{changed(three, func(t *api.Trades) { t.Heads[2].Also = []int{0, -1} }), api.ErrNoSuch},
		{changed(three, func(t *api.Trades) { t.Heads[2].Also = []int{1, 2, 0} }), api.ErrClash},
		{changed(three, func(t *api.Trades) { t.Heads[0].Also = []int{2, 0} }), api.ErrClash},
		{list("class x; a is x see b also b b; b is x"), api.ErrOrder},
		{list("class x; a is x see b; b is x"), api.ErrKind},
		{list("class x; a see b also b; b is x"), api.ErrKind},
		{list("class x; a; b is nobody"), api.ErrKind},
		{list("class x; a; 1"), api.ErrKind},
		{list("class x; a see b; b is nobody"), api.ErrNoSuch},
	}
}

// TestCheck is about P4.1: the errors of trades, in their order, which all
// functions return first.
func TestCheck(t *testing.T) {
	for i, c := range checks() {
		if e := trade.Check(c.t); e != c.want {
			t.Errorf("trades %d, %v: error %d, want %d", i, c.t, e, c.want)
		}
		if c.want == api.OK {
			continue
		}
		a := args{t: c.t, u: c.t, a: -1, b: -1, head: -1, steps: -1}
		for j, r := range a.call() {
			if r.e != c.want && j != functionRead {
				t.Errorf("trades %d, function %d: error %d, want %d", i, j, r.e, c.want)
			}
		}
	}
}

// TestCheckExamples is about P4.1: the examples of Check.
func TestCheckExamples(t *testing.T) {
	for _, c := range []struct {
		old, young string
		want       api.Errno
	}{
		{"", "", api.OK},
		{"class bread in food", "class bread in hats", api.ErrOrder},
		{"milliner see bonnets", "milliner see milliner", api.ErrClash},
		{"hatter is hats; mercer is cloth also hatter", "mercer is cloth also hatter; hatter is hats", api.ErrOrder},
		{"bonnets see hatter", "bonnets is food see hatter", api.ErrKind},
	} {
		text := strings.Replace(exampleT, c.old, c.young, 1)
		mustBe(t, c.young, trade.Check(list(text)), c.want)
	}
}

// TestNoSuch is about P4.1 to P4.6: a class or a heading that is not there
// comes before all other errors but those of the trades.
func TestNoSuch(t *testing.T) {
	given := list(exampleT)
	for _, n := range []int{-2, -1, 4, 1 << 40} {
		_, path := trade.Path(given, n)
		_, a := trade.Least(given, n, 0)
		_, b := trade.Least(given, 3, n)
		_, under := trade.Under(given, n)
		for i, e := range []api.Errno{path, a, b, under} {
			if e != api.ErrNoSuch {
				t.Errorf("class %d, function %d: error %d", n, i, e)
			}
		}
	}
	for _, n := range []int{-2, -1, 6, 1 << 40} {
		_, _, follow := trade.Follow(given, n)
		_, steps := trade.Steps(given, n)
		_, hidden := trade.Hidden(given, n, -1)
		_, join := trade.Join(given, n, -1)
		_, means := trade.Means(given, "b", n)
		_, short := trade.Short(given, n)
		_, drop := trade.Drop(given, n)
		for i, e := range []api.Errno{follow, steps, hidden, join, means, short, drop} {
			if e != api.ErrNoSuch {
				t.Errorf("heading %d, function %d: error %d", n, i, e)
			}
		}
	}
}

// TestDieTrades makes sure that the trades that are thrown are valid, and not
// all alike.
func TestDieTrades(t *testing.T) {
	d := die{state: 1}
	met := map[string]int{}
	for range 3000 {
		given := d.trades(6)
		mustBe(t, "trades thrown", trade.Check(given), api.OK)
		for _, h := range given.Heads {
			switch {
			case h.See != -1:
				met["pointer"]++
			case h.Class == -1:
				met["references"]++
			case len(h.Also) > 0:
				met["trade with references"]++
			default:
				met["trade"]++
			}
		}
		if circles, _ := trade.Circles(given); len(circles) > 0 {
			met["circle"]++
		}
		met[strings.Repeat("i", len(given.Heads))]++
	}
	for _, what := range []string{"pointer", "references", "trade with references", "trade", "circle", "", "i", "ii", "iii", "iiii", "iiiii", "iiiiii"} {
		if met[what] < 100 {
			t.Errorf("%s only %d times", what, met[what])
		}
	}
}

// TestOracles makes sure of what the tests compare with, by the examples.
func TestOracles(t *testing.T) {
	given := list(exampleT)
	if !isUnder(given, 1, 0) || isUnder(given, 0, 1) || !isUnder(given, 2, 2) {
		t.Error("isUnder")
	}
	if !slices.Equal(stepsFrom(given, 5), []int{-1, 1, -1, 2, -1, 0}) || !slices.Equal(hiddenFrom(given, 4, 1), []int{0, 2}) {
		t.Error("stepsFrom or hiddenFrom")
	}
	if !slices.Equal(meant(given, "b"), []int{0, 3}) || !slices.Equal(path(given, "hatter"), []string{"cloth", "hats"}) {
		t.Error("meant or path")
	}
}
