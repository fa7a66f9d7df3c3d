package round_test

import (
	"slices"
	"testing"

	"wayzgoose/api"
	"wayzgoose/round"
)

// The doors of this ground are alike, and just two of them are a safe walk.
func pairs(daysAndTries string) api.Ground {
	return ground("1 1 1 13 "+daysAndTries, "0 1 4, 0 1 4, 0 1 4, 0 1 4, 0 1 4")
}

// TestPlan is about P2.4; "!" stands for ErrNone.
func TestPlan(t *testing.T) {
	for _, c := range []struct {
		g      api.Ground
		l      string
		from   int
		fewest int
		plan   string
	}{
		{exampleG(), "", 0, 1, "0: 0 1, 1: 2 3, 2: 2 3, 3: 0 1"},
		{exampleG(), "", 1, 1, "1: 0 1, 2: 0 1, 3: 2 3, 4: 2 3"},
		{exampleG(), "", 3, 2, "3: 0 1, 3: 2 3, 4: 0 1, 4: 2 3"},
		{exampleG(), "", 4, 0, "!"},
		{exampleG(), exampleL, 2, 1, "3: 0 3, 4: 2 3"},
		{exampleG(), exampleL, 4, 0, "!"},
		{exampleG(), "0@0+ 1@0+ 2@0+ 3@0+", 0, 0, ""},
		{exampleG(), "0@0+ 1@0+ 2@0+ 3@0+", 5, 0, ""},
		{exampleG(), "0@0+ 1@0+ 2@0+", 5, 0, "!"},
		{ground("1 1 1 1 1 1", ""), "", 1, 0, ""},
		// With fewer walks altogether a shift would have more of them.
		{ground("2 1 4 55 2 2", "1 14 1, 1 4 2, 0 2 7, 0 17 4, 1 20 5"), "2@0 4@0 1@0", 0, 2, "1: 0, 1: 3, 2: 0, 2: 3, 3: 1 2, 3: 4"},
		{ground("3 7 4 51 3 2", "1 3 2, 0 3 4, 2 1 5, 1 1 7, 0 2 5"), "1@0 2@0", 1, 1, "1: 0 3 4, 2: 0 3 4, 3: 1, 5: 2"},
		{exampleIn(22), "", 0, 0, "!"},
		{exampleIn(22), "2@0+", 1, 2, "1: 0, 1: 1, 2: 0, 2: 1, 3: 3, 4: 3"},
		{pairs("1 1"), "", 0, 2, "0: 0 1, 0: 2 3, 1: 4"},
		{pairs("1 1"), "", 1, 3, "1: 0 1, 1: 2 3, 1: 4"},
		{pairs("1 1"), "3@0", 1, 2, "1: 0 1, 1: 2 4"},
		{pairs("2 1"), "", 0, 1, "0: 0 1, 1: 2 3, 2: 4"},
		{pairs("2 2"), "", 0, 2, "0: 0 1, 0: 2 3, 1: 4, 2: 4, 3: 0 1, 3: 2 3"},
		{pairs("3 2"), "", 0, 1, "0: 0 1, 1: 2 3, 2: 2 4, 3: 0 1, 4: 3, 5: 4"},
		{pairs("3 3"), "", 0, 2, "0: 0 1, 0: 2 3, 1: 4, 2: 0 1, 2: 2 3, 3: 4, 4: 4, 5: 0 1, 5: 2 3"},
		{pairs("3 3"), "0@0 1@0+ 2@1 3@1 4@1+", 2, 1, "2: 0 2, 3: 3, 4: 2 3, 5: 0"},
	} {
		n, e := round.Fewest(c.g, tries(c.l), c.from)
		plan, f := round.Plan(c.g, tries(c.l), c.from)
		want := api.OK
		var due []api.Walk
		if c.plan == "!" {
			want = api.ErrNone
		} else {
			due = walks(c.plan)
		}
		if e != want || f != want || n != c.fewest || !samePlan(plan, due) {
			t.Errorf("%v, %s, from %d: %d, plan %v, errors %d %d, want %d, %s", c.g, c.l, c.from, n, plan, e, f, c.fewest, c.plan)
		}
	}
}

// TestFewestCanvassers is P2.14: all schedules are tried.
func TestFewestCanvassers(t *testing.T) {
	d := die{state: 14}
	sizes := map[int]int{}
	for i := range 1500 {
		s := d.spot(2 + i%4)
		_, open := doneOf(s.g, s.l)
		b := bestOf(s, open)
		n, e := round.Fewest(s.g, s.l, s.from)
		plan, f := round.Plan(s.g, s.l, s.from)
		if !b.ok {
			if e != api.ErrNone || f != api.ErrNone || n != 0 || len(plan) > 0 {
				t.Fatalf("%v: %d and %v without a schedule, errors %d %d", s, n, plan, e, f)
			}
			sizes[-1]++
			continue
		}
		if e != api.OK || n != b.most {
			t.Fatalf("%v: %d canvassers, error %d, want %d", s, n, e, b.most)
		}
		if f != api.OK || len(plan) != b.all || !samePlan(plan, planOf(s, open, b)) {
			t.Fatalf("%v: plan %v, error %d, want %v", s, plan, f, planOf(s, open, b))
		}
		sizes[n]++
	}
	for n := -1; n <= 3; n++ {
		if sizes[n] < 3 {
			t.Errorf("%d canvassers only %d times", n, sizes[n])
		}
	}
}

// TestWhateverStaysShut is P2.13.
func TestWhateverStaysShut(t *testing.T) {
	d := die{state: 13}
	for range 300 {
		s := d.spot(api.MaxDoors)
		plan, e := round.Plan(s.g, s.l, s.from)
		if e != api.OK {
			continue
		}
		for chance := range 4 {
			l := s.l
			for _, w := range plan {
				done, _ := round.Done(s.g, l)
				walk := slices.DeleteFunc(slices.Clone(w.Doors), func(x int) bool { return slices.Contains(done, x) })
				if v, _ := round.Safe(s.g, walk); v != api.Sure {
					t.Fatalf("%v: %v of the plan %v is not safe", s, walk, plan)
				}
				opened := slices.DeleteFunc(slices.Clone(walk), func(int) bool { return d.throw(3) >= chance })
				next, e := round.After(s.g, l, w.Shift, walk, opened)
				if e != api.OK {
					t.Fatalf("%v: %v of the plan %v can't be walked: error %d", s, w, plan, e)
				}
				l = next
			}
			if done, e := round.Done(s.g, l); e != api.OK || len(done) < len(s.g.Doors) {
				t.Fatalf("%v: only %v are done after the plan %v", s, done, plan)
			}
		}
	}
}

// TestNews is P2.19: all that can open on the plan's first shift is tried.
func TestNews(t *testing.T) {
	d := die{state: 19}
	for range 200 {
		s := d.spot(api.MaxDoors)
		plan, e := round.Plan(s.g, s.l, s.from)
		if e != api.OK || len(plan) == 0 {
			continue
		}
		enough, _ := round.Fewest(s.g, s.l, s.from)
		var tried []int
		for _, w := range plan {
			if w.Shift == plan[0].Shift {
				tried = append(tried, w.Doors...)
			}
		}
		for _, opened := range subsets(tried) {
			l, e := round.After(s.g, s.l, plan[0].Shift, tried, opened)
			if e != api.OK {
				t.Fatalf("%v: the first shift of %v can't be walked: error %d", s, plan, e)
			}
			if done, _ := round.Done(s.g, l); len(done) == len(s.g.Doors) {
				continue
			}
			if n, e := round.Fewest(s.g, l, plan[0].Shift+1); e != api.OK || n > enough {
				t.Fatalf("%v: after the first shift of %v, opened %v: %d canvassers, error %d", s, plan, opened, n, e)
			}
		}
	}
}

// TestLatest is about P2.5; "!" stands for ErrNone.
func TestLatest(t *testing.T) {
	for _, c := range []struct {
		g          api.Ground
		l          string
		canvassers int
		want       string
	}{
		{exampleG(), "", 1, "2"},
		{exampleG(), "", 2, "3"},
		{exampleG(), "", 5, "3"},
		{exampleG(), "", 0, "!"},
		{exampleG(), exampleL, 1, "3"},
		{exampleG(), "0@3 1@3+ 2@3+ 3@3", 1, "4"},
		{exampleG(), "0@4 1@4+ 2@4+ 3@4+", 5, "!"},
		{exampleG(), "0@0+ 1@0+ 2@0+ 3@0+", 0, "5"},
		{exampleG(), "0@5+ 1@5+ 2@5+ 3@5+", 0, "5"},
		{exampleG(), "0@3+ 1@3+ 2@3+", 5, "3"},
		{exampleG(), "0@4+ 1@4+ 2@4+", 5, "!"},
		{exampleIn(22), "", 5, "!"},
		{exampleIn(22), "2@0+", 5, "3"},
		{ground("1 1 1 1 2 1", ""), "", 0, "3"},
		{pairs("1 1"), "", 1, "!"},
		{pairs("1 1"), "", 2, "0"},
		{pairs("1 1"), "", 3, "1"},
	} {
		n, e := round.Latest(c.g, tries(c.l), c.canvassers)
		want := api.OK
		due := 0
		if c.want == "!" {
			want = api.ErrNone
		} else {
			due = numbers(c.want)[0]
		}
		if e != want || n != due {
			t.Errorf("%v, %s, %d canvassers: %d, error %d, want %s", c.g, c.l, c.canvassers, n, e, c.want)
		}
	}
}

// TestLastShift is P2.17.
func TestLastShift(t *testing.T) {
	d := die{state: 17}
	none := 0
	for range 300 {
		s := d.spot(4)
		first := 0
		if len(s.l) > 0 {
			first = s.l[len(s.l)-1].Shift
		}
		_, open := doneOf(s.g, s.l)
		canvassers := d.throw(4)
		want, due := -1, api.ErrNone
		for from := first; from < 2*s.g.Days; from++ {
			if enoughFor(spot{s.g, s.l, from}, open, canvassers) {
				want, due = from, api.OK
			}
		}
		n, e := round.Latest(s.g, s.l, canvassers)
		if e != due || e == api.OK && n != want || e != api.OK && n != 0 {
			t.Fatalf("%v, %d canvassers: %d, error %d, want %d", s, canvassers, n, e, want)
		}
		if e != api.OK {
			n = first - 1
			none++
		} else if few, e := round.Fewest(s.g, s.l, n); e != api.OK || few > canvassers {
			t.Fatalf("%v, %d canvassers: %d are needed from %d on", s, canvassers, few, n)
		}
		for from := n + 1; from < 2*s.g.Days; from++ {
			if few, e := round.Fewest(s.g, s.l, from); e == api.OK && few <= canvassers {
				t.Fatalf("%v, %d canvassers: %d are enough from %d on", s, canvassers, few, from)
			}
		}
	}
	if none < 20 || none > 280 {
		t.Errorf("none %d times", none)
	}
}

// TestLater is P2.16.
func TestLater(t *testing.T) {
	d := die{state: 16}
	for range 400 {
		s := d.spot(api.MaxDoors)
		few, e := round.Fewest(s.g, s.l, s.from)
		lost, _ := round.Lost(s.g, s.l, s.from)
		for from := s.from + 1; from < 2*s.g.Days; from++ {
			n, f := round.Fewest(s.g, s.l, from)
			if f == api.OK && (e != api.OK || n < few) {
				t.Fatalf("%v: %d are enough from %d on, before %d, errors %d %d", s, n, from, few, f, e)
			}
			l, _ := round.Lost(s.g, s.l, from)
			for _, door := range lost {
				if !slices.Contains(l, door) {
					t.Fatalf("%v: the door %d is lost, but not from %d on", s, door, from)
				}
			}
			few, e, lost = n, f, l
		}
	}
}

// TestLeave is about P2.5.
func TestLeave(t *testing.T) {
	for _, c := range []struct {
		g                api.Ground
		l                string
		from, canvassers int
		want             string
	}{
		{exampleG(), "", 3, 1, "0 1"},
		{exampleG(), "", 4, 1, "0 1 2 3"},
		{exampleG(), "", 0, 1, ""},
		{exampleG(), "", 0, 0, "0 1 2 3"},
		{exampleG(), "", 3, 2, ""},
		{exampleG(), exampleL, 2, 0, "0 2 3"},
		{exampleG(), exampleL, 4, 5, "3"},
		{exampleG(), exampleL, 5, 5, "2 3"},
		{exampleG(), "0@0+ 1@0+ 2@0+ 3@0+", 5, 0, ""},
		{exampleIn(22), "", 0, 5, "2"},
		{exampleIn(22), "", 0, 1, "2"},
		{exampleIn(22), "2@0+", 0, 1, ""},
		{pairs("1 1"), "", 0, 1, "0"},
		{pairs("1 1"), "", 1, 1, "0 1 2"},
		{pairs("1 1"), "1@0", 1, 1, "0 2"},
		{pairs("1 1"), "", 1, 2, "0"},
		{ground("1 1 1 12 1 1", "0 1 1, 0 1 4, 0 1 4, 0 1 7"), "", 1, 1, "0 3"},
		{ground("1 1 1 15 1 1", "0 1 4, 0 1 2, 0 1 9, 0 1 2"), "", 1, 1, "2"},
		{ground("1 1 1 15 1 1", "0 1 4, 0 1 9, 0 1 8, 0 1 2"), "", 1, 1, "0 1"},
		{ground("1 1 1 15 1 1", "0 1 4, 0 1 9, 0 1 9, 0 1 3"), "", 1, 1, "1 2"},
	} {
		l, e := round.Leave(c.g, tries(c.l), c.from, c.canvassers)
		if e != api.OK || !slices.Equal(l, numbers(c.want)) {
			t.Errorf("%v, %s, from %d, %d canvassers: %v, error %d, want %s", c.g, c.l, c.from, c.canvassers, l, e, c.want)
		}
	}
}

// without returns a spot without some doors that are not done.
func (s spot) without(left []int) spot {
	to := map[int]int{}
	less := spot{g: s.g, from: s.from}
	less.g.Doors = nil
	for i, door := range s.g.Doors {
		if !slices.Contains(left, i) {
			to[i] = len(less.g.Doors)
			less.g.Doors = append(less.g.Doors, door)
		}
	}
	for _, try := range s.l {
		if at, ok := to[try.Door]; ok {
			try.Door = at
			less.l = append(less.l, try)
		}
	}
	return less
}

// TestLeftOut is P2.18: all lists are tried, each on a ground without its
// doors.
func TestLeftOut(t *testing.T) {
	d := die{state: 18}
	sizes := map[int]int{}
	for i := range 400 {
		s := d.spot(2 + i%4)
		canvassers := d.throw(3)
		_, open := doneOf(s.g, s.l)
		all := subsets(open)
		slices.SortFunc(all, func(a, b []int) int {
			if len(a) != len(b) {
				return len(a) - len(b)
			}
			return slices.Compare(a, b)
		})
		enough := func(left []int) bool {
			less := s.without(left)
			n, e := round.Fewest(less.g, less.l, less.from)
			return e == api.OK && n <= canvassers
		}
		want := all[slices.IndexFunc(all, enough)]
		l, e := round.Leave(s.g, s.l, s.from, canvassers)
		if e != api.OK || !slices.Equal(l, want) {
			t.Fatalf("%v, %d canvassers: %v, error %d, want %v", s, canvassers, l, e, want)
		}
		kept := slices.DeleteFunc(slices.Clone(open), func(x int) bool { return slices.Contains(l, x) })
		if !enoughFor(s, kept, canvassers) {
			t.Fatalf("%v: %d canvassers are not enough without %v", s, canvassers, l)
		}
		sizes[len(l)]++
	}
	for n := range 6 {
		if sizes[n] < 3 {
			t.Errorf("%d doors left out only %d times", n, sizes[n])
		}
	}
}

// TestServes is about P2.6.
func TestServes(t *testing.T) {
	once := ground("1 1 1 40 3 1", "0 1 1, 0 1 1")
	thrice := ground("1 1 1 40 3 3", "0 1 1")
	for _, c := range []struct {
		g                api.Ground
		l                string
		from, canvassers int
		plan             string
		want             bool
		e                api.Errno
	}{
		{exampleG(), exampleL, 2, 1, "3: 0 3, 4: 2 3", true, api.OK},
		{exampleG(), exampleL, 2, 1, "4: 3 2, 3: 3 0", true, api.OK},
		{exampleG(), exampleL, 2, 0, "3: 0 3, 4: 2 3", false, api.OK},
		{exampleG(), exampleL, 2, 1, "3: 0 3", false, api.OK},
		{exampleG(), exampleL, 2, 1, "4: 2 3", false, api.OK},
		{exampleG(), exampleL, 2, 1, "", false, api.OK},
		{exampleG(), exampleL, 2, 1, "2: 2 3, 3: 3 0, 4: 3", false, api.OK},
		{exampleG(), exampleL, 2, 1, "2: 2 3, 3: 0, 5: 3", true, api.OK},
		{exampleG(), exampleL, 2, 1, "2: 2, 2: 3, 3: 0, 5: 3", false, api.OK},
		{exampleG(), exampleL, 2, 2, "2: 2, 2: 3, 3: 0, 5: 3", true, api.OK},
		{exampleG(), exampleL, 2, 2, "5: 3, 3: 0, 2: 2, 2: 3", true, api.OK},
		// A walk without doors is a walk.
		{exampleG(), exampleL, 2, 1, "3: 0 3, 4: 2 3, 5:", true, api.OK},
		{exampleG(), exampleL, 2, 1, "3: 0 3, 4: 2 3, 4:", false, api.OK},
		// 1 is done, 0 and 2 were tried on the day 0.
		{exampleG(), exampleL, 2, 1, "3: 0 1, 4: 2 3, 5: 3", false, api.OK},
		{exampleG(), exampleL, 1, 2, "1: 3, 3: 0, 4: 2 3", true, api.OK},
		{exampleG(), exampleL, 1, 2, "1: 0 3, 4: 2 3", false, api.OK},
		// 0 is done after the shift 3.
		{exampleG(), exampleL, 2, 2, "3: 0 3, 4: 2 3, 5: 0", false, api.OK},
		{exampleG(), exampleL, 2, 2, "3: 0 3, 4: 2 3 0", false, api.OK},
		// More tries than are due: 0 in another morning before the evening.
		{exampleG(), exampleL, 2, 2, "2: 0, 3: 3, 4: 2 3, 5: 0", true, api.OK},
		{exampleG(), "", 0, 1, "0: 0 1, 1: 2 3, 2: 2 3, 3: 0 1", true, api.OK},
		{exampleG(), "", 0, 1, "0: 0 1, 1: 2 3, 2: 2 3, 4: 0 1", false, api.OK},
		{exampleG(), "", 0, 5, "0: 0 1 2 3, 3: 0 1, 3: 2 3", false, api.OK},
		{exampleG(), "0@0+ 1@0+ 2@0+ 3@0+", 0, 0, "", true, api.OK},
		{exampleG(), "0@0+ 1@0+ 2@0+ 3@0+", 0, 1, "1:", true, api.OK},
		{exampleG(), "0@0+ 1@0+ 2@0+ 3@0+", 0, 0, "1:", false, api.OK},
		{once, "", 0, 1, "0: 0 1", true, api.OK},
		{once, "", 0, 1, "0: 0, 1: 1", true, api.OK},
		{once, "", 0, 1, "0: 0, 2: 1 0", false, api.OK},
		{once, "0@0", 1, 1, "2: 1", true, api.OK},
		{once, "0@0", 1, 1, "2: 1 0", false, api.OK},
		{thrice, "", 0, 1, "0: 0, 2: 0, 5: 0", true, api.OK},
		{thrice, "", 0, 1, "0: 0, 2: 0, 4: 0", false, api.OK},
		{thrice, "", 0, 1, "5: 0, 0: 0, 3: 0", true, api.OK},
		{thrice, "", 0, 1, "0: 0, 5: 0", false, api.OK},
		{exampleG(), exampleL, 2, 1, "1: 3", false, api.ErrNoSuch},
		{exampleG(), exampleL, 1, 1, "0: 3", false, api.ErrNoSuch},
		{exampleG(), exampleL, 2, 1, "6: 3", false, api.ErrNoSuch},
		{exampleG(), exampleL, 2, 1, "-1: 3", false, api.ErrNoSuch},
		{exampleG(), exampleL, 2, 1, "6: 3 3", false, api.ErrNoSuch},
		{exampleG(), exampleL, 2, 1, "2: 4", false, api.ErrNoSuch},
		{exampleG(), exampleL, 2, 1, "2: -1", false, api.ErrNoSuch},
		{exampleG(), exampleL, 2, 1, "2: 3 3", false, api.ErrRepeated},
		{exampleG(), exampleL, 2, 1, "2: 3 3 4", false, api.ErrRepeated},
		{exampleG(), exampleL, 2, 1, "2: 3 4 4", false, api.ErrNoSuch},
		{exampleG(), exampleL, 2, 1, "2: 3 3, 6: 3", false, api.ErrRepeated},
		{exampleG(), exampleL, 2, 1, "6: 3, 2: 3 3", false, api.ErrNoSuch},
		{exampleG(), exampleL, 2, 0, "2: 0 1 2 3, 2: 0 0", false, api.ErrRepeated},
		{exampleG(), exampleL, 2, 0, "2: 1, 3: 1, 0: 1", false, api.ErrNoSuch},
	} {
		ok, e := round.Serves(c.g, tries(c.l), c.from, c.canvassers, walks(c.plan))
		if ok != c.want || e != c.e {
			t.Errorf("%v, %s, from %d, %d canvassers, %s: %v, error %d", c.g, c.l, c.from, c.canvassers, c.plan, ok, e)
		}
	}
}

// TestServed is P2.15.
func TestServed(t *testing.T) {
	d := die{state: 15}
	for range 400 {
		s := d.spot(api.MaxDoors)
		plan, e := round.Plan(s.g, s.l, s.from)
		few, f := round.Fewest(s.g, s.l, s.from)
		if e != f {
			t.Fatalf("%v: errors %d of Plan, %d of Fewest", s, e, f)
		}
		if e != api.OK {
			continue
		}
		if ok, e := round.Serves(s.g, s.l, s.from, few, plan); !ok || e != api.OK {
			t.Fatalf("%v: %v with %d canvassers: %v, error %d", s, plan, few, ok, e)
		}
		for n := range few {
			if ok, e := round.Serves(s.g, s.l, s.from, n, plan); ok || e != api.OK {
				t.Fatalf("%v: %v with %d canvassers: %v, error %d", s, plan, n, ok, e)
			}
		}
		for i := range plan {
			less := slices.Delete(slices.Clone(plan), i, i+1)
			if ok, e := round.Serves(s.g, s.l, s.from, few, less); ok || e != api.OK {
				t.Fatalf("%v: %v with %d canvassers: %v, error %d", s, less, few, ok, e)
			}
		}
	}
}

// TestServesAny is about P2.6: plans of all kinds.
func TestServesAny(t *testing.T) {
	d := die{state: 26}
	met := map[bool]int{}
	for range 4000 {
		s := d.spot(4)
		plan := d.wild(s)
		canvassers := d.throw(4)
		ok, e := round.Serves(s.g, s.l, s.from, canvassers, plan)
		if want := servesOf(s, canvassers, plan); e != api.OK || ok != want {
			t.Fatalf("%v, %d canvassers, %v: %v, error %d, want %v", s, canvassers, plan, ok, e, want)
		}
		met[ok]++
	}
	if met[true] < 200 || met[false] < 200 {
		t.Errorf("served or not: %v", met)
	}
}

// TestEasier is P2.20.
func TestEasier(t *testing.T) {
	d := die{state: 20}
	fewer := 0
	for range 300 {
		s := d.spot(api.MaxDoors)
		easier := []api.Ground{s.g, s.g}
		easier[0].Minutes = min(api.MaxMinutes, s.g.Minutes+1+d.throw(9))
		easier[1].Knock = max(1, s.g.Knock-1)
		for i := range s.g.Doors {
			g := s.g
			g.Doors = slices.Clone(s.g.Doors)
			g.Doors[i].Talk = 1
			easier = append(easier, g)
		}
		n, e := round.Fewest(s.g, s.l, s.from)
		for _, g := range easier {
			m, f := round.Fewest(g, s.l, s.from)
			if e == api.OK && (f != api.OK || m > n) {
				t.Fatalf("%v: %d canvassers, but %d of %v, error %d", s, n, m, g, f)
			}
			if f == api.OK && (e != api.OK || m < n) {
				fewer++
			}
		}
	}
	if fewer < 20 {
		t.Errorf("fewer canvassers only %d times", fewer)
	}
}

// TestRenumbered is P2.21.
func TestRenumbered(t *testing.T) {
	d := die{state: 21}
	for range 150 {
		s := d.spot(api.MaxDoors)
		all := orders(upTo(len(s.g.Doors)))
		number := all[d.throw(len(all))]
		other := spot{g: s.g, from: s.from}
		other.g.Doors = make([]api.Door, len(s.g.Doors))
		for i, door := range s.g.Doors {
			other.g.Doors[number[i]] = door
		}
		for _, try := range s.l {
			try.Door = number[try.Door]
			other.l = append(other.l, try)
		}
		n, e := round.Fewest(s.g, s.l, s.from)
		m, f := round.Fewest(other.g, other.l, other.from)
		p, _ := round.Plan(s.g, s.l, s.from)
		q, _ := round.Plan(other.g, other.l, other.from)
		if e != f || n != m || len(p) != len(q) {
			t.Fatalf("%v: %d canvassers, %d walks, error %d; with other numbers %d, %d, %d", s, n, len(p), e, m, len(q), f)
		}
	}
}
