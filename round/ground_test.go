package round_test

import (
	"slices"
	"testing"

	"wayzgoose/api"
	"wayzgoose/round"
)

// errorsOf returns the errors of all functions: first of those without a log,
// then of those with one, of which the last six have a shift and the last two
// more than that.
func errorsOf(g api.Ground, l []api.Try, from int) []api.Errno {
	_, way := round.Way(g, 9, 9)
	_, takes := round.Takes(g, []int{9})
	_, safe := round.Safe(g, []int{9})
	_, shortest := round.Shortest(g, []int{9})
	_, walks := round.Walks(g, []int{9})
	log := round.Log(g, l)
	_, done := round.Done(g, l)
	_, due := round.Due(g, l)
	_, latest := round.Latest(g, l, 9)
	_, lost := round.Lost(g, l, from)
	_, fewest := round.Fewest(g, l, from)
	_, plan := round.Plan(g, l, from)
	_, leave := round.Leave(g, l, from, 9)
	_, serves := round.Serves(g, l, from, 9, walks9())
	_, after := round.After(g, l, from, []int{9}, []int{9})
	return []api.Errno{way, takes, safe, shortest, walks, log, done, due, latest, lost, fewest, plan, leave, serves, after}
}

// walks9 is a plan that is wrong in each way.
func walks9() []api.Walk { return walks("9: 9 9") }

// TestCheck is about P2.1: each limit and the order of the errors. All
// functions return Check's error before all others.
func TestCheck(t *testing.T) {
	const doors = "0 3 5, 0 8 2, 1 5 4, 1 2 6"
	five, six := "0 0 1, 0 0 1, 0 0 1, 0 0 1, 0 0 1", "0 0 1, 0 0 1, 0 0 1, 0 0 1, 0 0 1, 0 0 1"
	for _, c := range []struct {
		head, doors string
		want        api.Errno
	}{
		{"2 4 1 40 3 2", doors, api.OK},
		{"2 4 1 40 3 2", "", api.OK},
		{"1 1 1 1 1 1", "0 0 1", api.OK},
		{"3 9 5 90 3 3", "2 20 9", api.OK},
		{"0 4 1 40 3 2", "", api.ErrRange},
		{"-1 4 1 40 3 2", "", api.ErrRange},
		{"4 4 1 40 3 2", doors, api.ErrRange},
		{"2 0 1 40 3 2", doors, api.ErrRange},
		{"2 10 1 40 3 2", doors, api.ErrRange},
		{"2 4 0 40 3 2", doors, api.ErrRange},
		{"2 4 6 40 3 2", doors, api.ErrRange},
		{"2 4 1 0 3 2", doors, api.ErrRange},
		{"2 4 1 91 3 2", doors, api.ErrRange},
		{"2 4 1 40 0 0", doors, api.ErrRange},
		{"2 4 1 40 4 2", doors, api.ErrRange},
		{"2 4 1 40 3 0", doors, api.ErrRange},
		{"2 4 1 40 3 4", doors, api.ErrRange},
		{"2 4 1 40 2 3", doors, api.ErrRange},
		{"2 4 1 40 1 2", doors, api.ErrRange},
		{"2 4 1 40 1 1", doors, api.OK},
		{"2 4 1 40 3 2", five, api.OK},
		{"2 4 1 40 3 2", six, api.ErrFull},
		{"2 4 1 40 3 2", "9 0 1, 0 0 1, 0 0 1, 0 0 1, 0 0 1, 0 0 1", api.ErrFull},
		{"2 4 1 40 3 2", "0 99 1, 0 0 1, 0 0 1, 0 0 1, 0 0 1, 0 0 1", api.ErrFull},
		{"2 4 1 40 3 4", six, api.ErrRange},
		{"0 4 1 40 3 2", six, api.ErrRange},
		{"2 4 1 91 3 2", "2 0 1", api.ErrRange},
		{"2 4 1 40 3 2", "2 0 1", api.ErrNoSuch},
		{"1 4 1 40 3 2", "1 0 1", api.ErrNoSuch},
		{"2 4 1 40 3 2", "-1 0 1", api.ErrNoSuch},
		{"2 4 1 40 3 2", "2 21 0", api.ErrNoSuch},
		{"2 4 1 40 3 2", "0 -1 1", api.ErrRange},
		{"2 4 1 40 3 2", "0 0 1", api.OK},
		{"2 4 1 40 3 2", "0 20 1", api.OK},
		{"2 4 1 40 3 2", "0 21 1", api.ErrRange},
		{"2 4 1 40 3 2", "0 3 0", api.ErrRange},
		{"2 4 1 40 3 2", "0 3 9", api.OK},
		{"2 4 1 40 3 2", "0 3 10", api.ErrRange},
		{"2 4 1 40 3 2", "0 3 1, 0 3 -1", api.ErrRange},
		{"2 4 1 40 3 2", "0 21 1, 2 0 1", api.ErrRange},
		{"2 4 1 40 3 2", "2 0 1, 0 21 1", api.ErrNoSuch},
		{"2 4 1 40 3 2", "1 3 10, 2 0 1", api.ErrRange},
		{"2 4 1 40 3 2", "0 0 1, 0 0 1, 0 0 1, 0 0 1, 2 0 1", api.ErrNoSuch},
		{"2 4 1 40 3 2", "0 0 1, 0 0 1, 0 0 1, 0 0 1, 0 0 0", api.ErrRange},
	} {
		g := ground(c.head, c.doors)
		if e := round.Check(g); e != c.want {
			t.Errorf("%s; %s: error %d, want %d", c.head, c.doors, e, c.want)
		}
		for i, e := range errorsOf(g, tries("9@9"), 9) {
			want := c.want
			if want == api.OK {
				want = api.ErrNoSuch
			}
			if e != want {
				t.Errorf("%s; %s: function %d: error %d, want %d", c.head, c.doors, i, e, want)
			}
		}
	}
	mustBe(t, "no ground", round.Check(api.Ground{}), api.ErrRange)
}

// TestWay is about P2.1.
func TestWay(t *testing.T) {
	for _, c := range []struct {
		g    api.Ground
		a, b int
		want int
		e    api.Errno
	}{
		{exampleG(), -1, 0, 3, api.OK},
		{exampleG(), 2, 3, 3, api.OK},
		{exampleG(), 1, 2, 17, api.OK},
		{exampleG(), 2, 1, 17, api.OK},
		{exampleG(), -1, 4, 0, api.ErrNoSuch},
		{exampleG(), 4, 0, 0, api.ErrNoSuch},
		{exampleG(), -2, 0, 0, api.ErrNoSuch},
		{exampleG(), 0, -2, 0, api.ErrNoSuch},
		{exampleG(), 4, 4, 0, api.ErrNoSuch},
		{exampleG(), -1, -1, 0, api.OK},
		{exampleG(), 3, 3, 0, api.OK},
		{exampleG(), 0, 1, 5, api.OK},
		{exampleG(), -1, 3, 6, api.OK},
		{exampleG(), 3, -1, 6, api.OK},
		{ground("3 7 1 40 1 1", "0 20 1, 2 20 1, 1 3 1"), 0, 1, 54, api.OK},
		{ground("3 7 1 40 1 1", "0 20 1, 2 20 1, 1 3 1"), 1, -1, 34, api.OK},
		{ground("3 7 1 40 1 1", "0 20 1, 2 20 1, 1 3 1"), 2, 1, 30, api.OK},
		{ground("3 7 1 40 1 1", "2 4 1, 2 9 1"), 1, 0, 5, api.OK},
		{ground("3 7 1 40 1 1", ""), 0, -1, 0, api.ErrNoSuch},
		{ground("3 7 1 40 1 1", ""), -1, -1, 0, api.OK},
	} {
		if n, e := round.Way(c.g, c.a, c.b); n != c.want || e != c.e {
			t.Errorf("%v: from %d to %d: %d, error %d", c.g, c.a, c.b, n, e)
		}
	}
	d := die{state: 1}
	for range 300 {
		g := d.ground(api.MaxDoors)
		for a := -1; a < len(g.Doors); a++ {
			for b := -1; b < len(g.Doors); b++ {
				if n, e := round.Way(g, a, b); e != api.OK || n != way(g, a, b) {
					t.Fatalf("%v: from %d to %d: %d, error %d", g, a, b, n, e)
				}
			}
		}
	}
}

// TestLists is about P2.1: the lists of doors that Takes, Safe, Shortest and
// Walks know.
func TestLists(t *testing.T) {
	for _, c := range []struct {
		list string
		want api.Errno
	}{
		{"", api.OK},
		{"3", api.OK},
		{"3 1 0 2", api.OK},
		{"0 0", api.ErrRepeated},
		{"1 2 3 1", api.ErrRepeated},
		{"0 4", api.ErrNoSuch},
		{"-1", api.ErrNoSuch},
		{"0 -1 0", api.ErrNoSuch},
		{"0 0 4", api.ErrRepeated},
		{"4 0 0", api.ErrNoSuch},
		{"0 1 2 3 4", api.ErrNoSuch},
		{"0 1 2 3 3 4", api.ErrRepeated},
		{"99 99", api.ErrNoSuch},
	} {
		l := numbers(c.list)
		_, a := round.Takes(exampleG(), l)
		_, b := round.Safe(exampleG(), l)
		_, d := round.Shortest(exampleG(), l)
		_, e := round.Walks(exampleG(), l)
		_, f := round.Serves(exampleG(), nil, 0, 5, []api.Walk{{Shift: 0}, {Shift: 5, Doors: l}})
		_, h := round.After(exampleG(), nil, 0, l, nil)
		if got := []api.Errno{a, b, d, e, f, h}; !slices.Equal(got, slices.Repeat([]api.Errno{c.want}, len(got))) {
			t.Errorf("%s: errors %v, want %d", c.list, got, c.want)
		}
	}
}
