package round_test

import (
	"slices"
	"testing"

	"wayzgoose/api"
	"wayzgoose/round"
)

// TestLog is about P2.3: the errors of a log, and that all functions that have
// one return them before their own.
func TestLog(t *testing.T) {
	often := ground("1 1 1 40 3 3", "0 1 1, 0 1 1")
	once := ground("1 1 1 40 3 1", "0 1 1, 0 1 1")
	for _, c := range []struct {
		g    api.Ground
		l    string
		want api.Errno
	}{
		{exampleG(), "", api.OK},
		{exampleG(), exampleL, api.OK},
		{exampleG(), "0@0 0@1", api.ErrRepeated},
		{exampleG(), "1@2 0@1", api.ErrOrder},
		{exampleG(), "0@0+ 0@2", api.ErrShut},
		{exampleG(), "4@0", api.ErrNoSuch},
		{exampleG(), "-1@0", api.ErrNoSuch},
		{exampleG(), "0@6", api.ErrNoSuch},
		{exampleG(), "0@-1", api.ErrNoSuch},
		{exampleG(), "3@5", api.OK},
		{exampleG(), "0@5 4@0", api.ErrNoSuch},
		{exampleG(), "0@5 1@6", api.ErrNoSuch},
		{exampleG(), "0@5 1@-1", api.ErrNoSuch},
		{exampleG(), "0@1 0@0", api.ErrOrder},
		{exampleG(), "0@1+ 0@0", api.ErrOrder},
		{exampleG(), "0@0 0@0", api.ErrRepeated},
		{exampleG(), "0@0+ 0@1", api.ErrRepeated},
		{exampleG(), "0@0+ 1@0 0@0", api.ErrRepeated},
		{exampleG(), "0@0 0@3 0@4", api.ErrShut},
		{exampleG(), "0@0 0@2 0@4", api.OK},
		{exampleG(), "0@1 0@3 0@5", api.OK},
		{exampleG(), "0@1 0@2", api.OK},
		{exampleG(), "0@1 0@2 0@3", api.ErrRepeated},
		{exampleG(), "0@1 0@2 0@4", api.ErrShut},
		{exampleG(), "0@1 1@1 2@1 3@1", api.OK},
		{exampleG(), "3@1 2@1+ 1@1 0@1", api.OK},
		{exampleG(), "0@0 0@1 9@9", api.ErrRepeated},
		{exampleG(), "0@0 1@1 0@0 9@9", api.ErrOrder},
		{often, "0@0 0@3 0@4", api.OK},
		{often, "0@0 0@3+ 0@4", api.ErrShut},
		{once, "0@0 0@2", api.ErrShut},
		{once, "0@0 1@3", api.OK},
		{ground("1 1 1 40 1 1", "0 1 1"), "0@1", api.OK},
		{ground("1 1 1 40 1 1", "0 1 1"), "0@2", api.ErrNoSuch},
		{ground("1 1 1 40 1 1", ""), "0@0", api.ErrNoSuch},
	} {
		if e := round.Log(c.g, tries(c.l)); e != c.want {
			t.Errorf("%v, %s: error %d, want %d", c.g, c.l, e, c.want)
		}
		if c.want == api.OK {
			continue
		}
		for i, e := range errorsOf(c.g, tries(c.l), 9)[5:] {
			if e != c.want {
				t.Errorf("%v, %s: function %d: error %d, want %d", c.g, c.l, i, e, c.want)
			}
		}
	}
}

// TestAnyLog is about P2.3: logs of all kinds.
func TestAnyLog(t *testing.T) {
	d := die{state: 23}
	met := map[api.Errno]int{}
	for range 4000 {
		g := d.ground(3)
		l := d.log(g, 2*g.Days)
		for range d.throw(3) {
			try := api.Try{Door: d.throw(len(g.Doors) + 1), Shift: d.throw(2*g.Days + 1), Opened: d.throw(2) == 0}
			if d.throw(20) == 0 {
				try.Door = -1
			}
			if d.throw(20) == 0 {
				try.Shift = -1
			}
			l = slices.Insert(l, d.throw(len(l)+1), try)
		}
		e := round.Log(g, l)
		if want := logError(g, l); e != want {
			t.Fatalf("%v, %v: error %d, want %d", g, l, e, want)
		}
		met[e]++
	}
	for _, e := range []api.Errno{api.OK, api.ErrNoSuch, api.ErrRepeated, api.ErrOrder, api.ErrShut} {
		if met[e] < 20 {
			t.Errorf("error %d only %d times", e, met[e])
		}
	}
}

// TestFrom is about P2.3: the errors of shifts and of canvassers, in their
// order.
func TestFrom(t *testing.T) {
	for _, c := range []struct {
		l    string
		from int
		want api.Errno
	}{
		{exampleL, 1, api.OK},
		{exampleL, 2, api.OK},
		{exampleL, 5, api.OK},
		{exampleL, 0, api.ErrOrder},
		{exampleL, -1, api.ErrNoSuch},
		{exampleL, 6, api.ErrNoSuch},
		{"", 0, api.OK},
		{"", -1, api.ErrNoSuch},
		{"0@5", 4, api.ErrOrder},
		{"0@5", 5, api.OK},
	} {
		g, l := exampleG(), tries(c.l)
		_, e := round.Lost(g, l, c.from)
		mustBe(t, "Lost", e, c.want)
		if c.want == api.OK {
			continue
		}
		for i, e := range errorsOf(g, l, c.from)[9:] {
			if e != c.want {
				t.Errorf("%s, from %d: function %d: error %d, want %d", c.l, c.from, i, e, c.want)
			}
		}
	}
	for _, c := range []struct {
		canvassers int
		want       api.Errno
	}{{-1, api.ErrRange}, {0, api.OK}, {5, api.OK}, {6, api.ErrRange}} {
		_, e := round.Leave(exampleG(), nil, 0, c.canvassers)
		mustBe(t, "Leave", e, c.want)
		_, e = round.Latest(exampleG(), tries("0@0+ 1@0+ 2@0+ 3@0+"), c.canvassers)
		mustBe(t, "Latest", e, c.want)
		_, e = round.Serves(exampleG(), nil, 0, c.canvassers, nil)
		mustBe(t, "Serves", e, c.want)
	}
	_, e := round.Serves(exampleG(), nil, 0, 6, walks9())
	mustBe(t, "Serves before its walks", e, api.ErrRange)
}

// TestDoneAndDue is about P2.3: dues are written as door: tries, and M and E.
func TestDoneAndDue(t *testing.T) {
	often := ground("1 1 1 40 3 3", "0 1 1")
	once := ground("1 1 1 40 3 1", "0 1 1")
	for _, c := range []struct {
		g    api.Ground
		l    string
		done string
		due  []api.Due
	}{
		{exampleG(), exampleL, "1", []api.Due{{Door: 0, Tries: 1, Evening: true}, {Door: 2, Tries: 1, Morning: true}, {Door: 3, Tries: 2, Morning: true, Evening: true}}},
		{exampleG(), "0@0 1@0+ 2@0+ 0@3 3@4", "0 1 2", []api.Due{{Door: 3, Tries: 1, Evening: true}}},
		{exampleG(), "0@0+ 1@0+ 2@0+ 3@0+", "0 1 2 3", nil},
		{exampleG(), "0@0 1@0+ 2@0+ 3@0+ 0@2", "1 2 3", []api.Due{{Door: 0, Tries: 1, Evening: true}}},
		{exampleG(), "0@0 1@0+ 2@0+ 3@0+ 0@2 0@4", "1 2 3", []api.Due{{Door: 0, Tries: 1, Evening: true}}},
		{exampleG(), "0@1 1@1+ 2@1+ 3@1+ 0@3 0@5", "1 2 3", []api.Due{{Door: 0, Tries: 1, Morning: true}}},
		{often, "", "", []api.Due{{Door: 0, Tries: 3, Morning: true, Evening: true}}},
		{often, "0@0", "", []api.Due{{Door: 0, Tries: 2, Evening: true}}},
		{often, "0@1", "", []api.Due{{Door: 0, Tries: 2, Morning: true}}},
		{often, "0@0 0@2", "", []api.Due{{Door: 0, Tries: 1, Evening: true}}},
		{often, "0@0 0@3", "", []api.Due{{Door: 0, Tries: 1}}},
		{often, "0@0 0@2 0@4", "", []api.Due{{Door: 0, Tries: 1, Evening: true}}},
		{often, "0@0 0@2 0@5", "0", nil},
		{once, "", "", []api.Due{{Door: 0, Tries: 1}}},
		{once, "0@0", "0", nil},
		{once, "0@1+", "0", nil},
		{ground("1 1 1 40 1 1", ""), "", "", nil},
	} {
		l, e := round.Done(c.g, tries(c.l))
		due, f := round.Due(c.g, tries(c.l))
		if e != api.OK || f != api.OK || !slices.Equal(l, numbers(c.done)) || !slices.Equal(due, c.due) {
			t.Errorf("%v, %s: done %v, due %v, errors %d %d", c.g, c.l, l, due, e, f)
		}
	}
}

// TestDueIsEnough is P2.11: all lists of mornings and evenings are tried.
func TestDueIsEnough(t *testing.T) {
	d := die{state: 11}
	for range 1000 {
		g := d.ground(api.MaxDoors)
		l := d.log(g, d.throw(2*g.Days+1))
		done, open := doneOf(g, l)
		got, e := round.Done(g, l)
		dues, f := round.Due(g, l)
		if e != api.OK || f != api.OK || !slices.Equal(got, done) || len(dues) != len(open) {
			t.Fatalf("%v, %v: done %v, due %v, errors %d %d", g, l, got, dues, e, f)
		}
		for i, due := range dues {
			if due != dueOf(g, l, open[i]) {
				t.Fatalf("%v, %v: due %v, want %v", g, l, due, dueOf(g, l, open[i]))
			}
			// A door that stays shut is done after the tries of Due, if there
			// are days enough.
			s := spot{g: g, l: l}
			if len(l) > 0 {
				s.from = l[len(l)-1].Shift
			}
			for _, shifts := range shiftsFor(s, due.Door) {
				after := slices.Clone(l)
				for j, shift := range shifts {
					if n, _ := round.Done(g, after); slices.Contains(n, due.Door) {
						t.Fatalf("%v, %v: door %d is done after %d of %v", g, l, due.Door, j, shifts)
					}
					after = append(after, api.Try{Door: due.Door, Shift: shift})
				}
				if n, e := round.Done(g, after); e != api.OK || !slices.Contains(n, due.Door) {
					t.Fatalf("%v, %v: door %d is not done after %v", g, l, due.Door, shifts)
				}
			}
		}
	}
}

// TestLost is about P2.3.
func TestLost(t *testing.T) {
	for _, c := range []struct {
		g    api.Ground
		l    string
		from int
		want string
	}{
		{exampleG(), exampleL, 4, "3"},
		{exampleG(), exampleL, 5, "2 3"},
		{exampleG(), exampleL, 3, ""},
		{exampleG(), "", 0, ""},
		{exampleG(), "", 3, ""},
		{exampleG(), "", 4, "0 1 2 3"},
		{exampleG(), "0@4 1@4 2@5+", 5, "0 1 3"},
		{exampleG(), "0@2 1@3", 3, ""},
		{exampleG(), "0@2 1@3", 4, "2 3"},
		{exampleG(), "0@2 1@3", 5, "1 2 3"},
		{exampleG(), "0@0 0@2 0@4 1@4 2@4+", 4, "0 1 3"},
		{exampleIn(22), "", 0, "2"},
		{exampleIn(23), "", 0, ""},
		{exampleIn(11), "", 0, "0 1 2 3"},
		{exampleIn(12), "", 0, "1 2 3"},
		{exampleIn(22), "2@0", 1, "2"},
		{ground("1 1 1 40 3 3", "0 1 1"), "", 1, ""},
		{ground("1 1 1 40 3 3", "0 1 1"), "", 2, "0"},
		{ground("1 1 1 40 3 3", "0 1 1"), "0@0 0@2", 4, ""},
		{ground("1 1 1 40 3 3", "0 1 1"), "0@0 0@3", 5, ""},
		{ground("1 1 1 40 3 3", "0 1 1"), "0@1 0@3", 5, "0"},
		{ground("1 1 1 40 1 1", "0 1 1"), "", 1, ""},
	} {
		l, e := round.Lost(c.g, tries(c.l), c.from)
		if e != api.OK || !slices.Equal(l, numbers(c.want)) {
			t.Errorf("%v, %s, from %d: %v, error %d, want %s", c.g, c.l, c.from, l, e, c.want)
		}
	}
}

// TestLostForGood is P2.12: all lists of shifts are tried. A door that is no
// safe walk is lost even if it is done.
func TestLostForGood(t *testing.T) {
	d := die{state: 12}
	sizes := map[int]int{}
	for range 1500 {
		s := d.spot(api.MaxDoors)
		l, e := round.Lost(s.g, s.l, s.from)
		if e != api.OK || !slices.Equal(l, lostOf(s)) {
			t.Fatalf("%v: lost %v, error %d, want %v", s, l, e, lostOf(s))
		}
		sizes[len(l)]++
		for door := range s.g.Doors {
			lost := !safe(s.g, []int{door})
			if !lost && !canBeDone(s, door) {
				lost = true
			}
			if slices.Contains(l, door) != lost {
				t.Fatalf("%v: lost %v, but the door %d is otherwise", s, l, door)
			}
		}
	}
	for n := range 5 {
		if sizes[n] < 5 {
			t.Errorf("%d lost doors only %d times", n, sizes[n])
		}
	}
}

// canBeDone reports whether a list of shifts from this one on, on days without
// a try of the door, has it done.
func canBeDone(s spot, door int) bool {
	for _, shifts := range subsets(upTo(2 * s.g.Days)[s.from:]) {
		l := slices.Clone(s.l)
		e := api.OK
		for _, shift := range shifts {
			l = append(l, api.Try{Door: door, Shift: shift})
			e = max(e, round.Log(s.g, l))
		}
		if n, _ := round.Done(s.g, l); e == api.OK && slices.Contains(n, door) {
			return true
		}
	}
	return false
}

// TestAfter is about P2.6.
func TestAfter(t *testing.T) {
	for _, c := range []struct {
		l            string
		shift        int
		walk, opened string
		want         string // the new tries
		e            api.Errno
	}{
		{exampleL, 2, "2 3", "3", "2@2 3@2+", api.OK},
		{exampleL, 2, "3 2", "2 3", "3@2+ 2@2+", api.OK},
		{exampleL, 2, "", "", "", api.OK},
		{"", 0, "3 1 0 2", "", "3@0 1@0 0@0 2@0", api.OK},
		{exampleL, 1, "3", "", "3@1", api.OK},
		{exampleL, 1, "0", "", "", api.ErrRepeated},
		{exampleL, 1, "1", "", "", api.ErrRepeated},
		{exampleL, 2, "1", "", "", api.ErrShut},
		{exampleL, 2, "0 1 1", "", "", api.ErrRepeated},
		{exampleL, 2, "1 4", "", "", api.ErrNoSuch},
		{exampleL, 2, "1", "2", "", api.ErrNoSuch},
		{exampleL, 2, "1", "1 1", "", api.ErrRepeated},
		{exampleL, 2, "3", "3 3", "", api.ErrRepeated},
		{exampleL, 2, "3", "3 3 2", "", api.ErrRepeated},
		{exampleL, 2, "3", "2 3 3", "", api.ErrNoSuch},
		{exampleL, 2, "3", "-1", "", api.ErrNoSuch},
		{exampleL, 2, "3", "99", "", api.ErrNoSuch},
		{exampleL, 2, "", "0", "", api.ErrNoSuch},
		{exampleL, 2, "3 3", "9", "", api.ErrRepeated},
		{exampleL, 0, "9", "9", "", api.ErrOrder},
		{exampleL, 6, "3", "", "", api.ErrNoSuch},
		{"0@0 0@3", 4, "1 0", "", "", api.ErrShut},
		{"0@0 0@2", 4, "1 0", "", "1@4 0@4", api.OK},
	} {
		l, e := round.After(exampleG(), tries(c.l), c.shift, numbers(c.walk), numbers(c.opened))
		var want []api.Try
		if c.e == api.OK {
			want = append(tries(c.l), tries(c.want)...)
		}
		if e != c.e || !slices.Equal(l, want) {
			t.Errorf("%s, %d: %s, opened %s: %v, error %d", c.l, c.shift, c.walk, c.opened, l, e)
		}
	}
	// A walk that is not safe can be walked, too.
	long := ground("2 4 1 1 3 2", "0 3 5, 1 20 2")
	l, e := round.After(long, nil, 0, []int{1, 0}, []int{0})
	if e != api.OK || !slices.Equal(l, tries("1@0 0@0+")) {
		t.Errorf("a long walk: %v, error %d", l, e)
	}
	d := die{state: 6}
	for range 500 {
		s := d.spot(api.MaxDoors)
		walk := d.some(upTo(len(s.g.Doors)))
		opened := d.some(walk)
		want := slices.Clone(s.l)
		for _, door := range walk {
			want = append(want, api.Try{Door: door, Shift: s.from, Opened: slices.Contains(opened, door)})
		}
		due := logError(s.g, want)
		l, e := round.After(s.g, s.l, s.from, walk, opened)
		if e != due || e == api.OK && !slices.Equal(l, want) || e != api.OK && len(l) > 0 {
			t.Fatalf("%v: %v, opened %v: %v, error %d, want %d", s, walk, opened, l, e, due)
		}
	}
}
