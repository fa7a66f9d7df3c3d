package lodge_test

import (
	"slices"
	"testing"

	"wayzgoose/api"
	"wayzgoose/lodge"
)

// sofar returns what a function of the tests finds in truths, ascending and
// each number once.
func sofar(truths []truth, find func(truth) int) []int {
	var l []int
	for _, t := range truths {
		l = append(l, find(t))
	}
	slices.Sort(l)
	return slices.Compact(l)
}

// verdictOf returns whether something is so in all truths, in none, or in some.
func verdictOf(truths []truth, is func(truth) bool) int {
	n := 0
	for _, t := range truths {
		if is(t) {
			n++
		}
	}
	switch n {
	case len(truths):
		return api.Sure
	case 0:
		return api.Out
	}
	return api.Open
}

// whoIs returns who is at a home on a day, -1 if nobody is.
func (t truth) whoIs(home, day int) int {
	for person, life := range t.lives {
		if life[day] == home {
			return person
		}
	}
	return -1
}

// moves returns how often a person moves.
func (t truth) moves(person int) int {
	n := 0
	for day, home := range t.lives[person] {
		if day > 0 && home != t.lives[person][day-1] {
			n++
		}
	}
	return n
}

// follows reports whether second is at a home on the day after one of first.
func (t truth) follows(home, first, second int) bool {
	for day := 1; day < len(t.lives[first]); day++ {
		if t.lives[first][day-1] == home && t.lives[second][day] == home {
			return true
		}
	}
	return false
}

// TestWhere is about P5.2: where a person can be, and the errors in their order.
func TestWhere(t *testing.T) {
	for _, c := range []struct {
		l           api.Lodging
		person, day int
		want        []int
		e           api.Errno
	}{
		{exampleL(""), 0, 0, []int{0}, api.OK},
		{exampleL(""), 0, 1, []int{-1, 0, 1}, api.OK},
		{exampleL(""), 1, 0, []int{-1, 1}, api.OK},
		{exampleL(""), 1, 1, []int{0, 1}, api.OK},
		{exampleL(""), 2, 0, nil, api.ErrNoSuch},
		{exampleL(""), -1, 0, nil, api.ErrNoSuch},
		{exampleL(""), 0, 2, nil, api.ErrNoSuch},
		{exampleL(""), 0, -1, nil, api.ErrNoSuch},
		{exampleL("cyd 0/1 0"), 0, 0, nil, api.ErrClash},
		{exampleL("cyd 0/1 0"), 2, 0, nil, api.ErrNoSuch},
		{lodging("1 2|3 4|5 6", "anna", 1, 1, ""), 0, 0, []int{-1, 0, 1, 2, 3, 4, 5}, api.OK},
		{lodging("1 2|3 4|5 6", "anna", 4, 4, "anna 2/6 1"), 0, 1, []int{5}, api.OK},
		{lodging("1 2", "anna", 3, 3, "anna 0/1 0, anna 0/1 2"), 0, 1, []int{-1, 0}, api.OK},
		{lodging("1 2", "anna", 3, 1, "anna 0/1 0, anna 0/1 2"), 0, 1, []int{-1, 0, 1}, api.OK},
	} {
		l, e := lodge.Where(c.l, c.person, c.day)
		if !slices.Equal(l, c.want) || e != c.e {
			t.Errorf("%v, %d %d: %v, error %d, want %v, error %d", c.l, c.person, c.day, l, e, c.want, c.e)
		}
	}
}

// TestWho is about P5.2: who can be at a home, and the errors in their order.
func TestWho(t *testing.T) {
	for _, c := range []struct {
		l         api.Lodging
		home, day int
		want      []int
		e         api.Errno
	}{
		{exampleL(""), 0, 0, []int{0}, api.OK},
		{exampleL(""), 0, 1, []int{-1, 0, 1}, api.OK},
		{exampleL(""), 1, 0, []int{-1, 1}, api.OK},
		{exampleL("anna 0/1 1"), 1, 1, []int{1}, api.OK},
		{exampleL(""), 2, 0, nil, api.ErrNoSuch},
		{exampleL(""), -1, 0, nil, api.ErrNoSuch},
		{exampleL(""), 0, 2, nil, api.ErrNoSuch},
		{exampleL(""), 0, -1, nil, api.ErrNoSuch},
		{exampleL("cyd 0/1 0"), 0, 0, nil, api.ErrClash},
		{exampleL("cyd 0/1 0"), 2, 0, nil, api.ErrNoSuch},
		{lodging("1 2", "anna ben cyd", 1, 1, ""), 1, 0, []int{-1, 0, 1, 2}, api.OK},
		{lodging("1 2", "anna ben cyd", 1, 1, "cyd 0/1 0"), 0, 0, []int{2}, api.OK},
		{lodging("1 2", "anna ben cyd", 1, 1, "cyd 0/1 0"), 1, 0, []int{-1, 0, 1}, api.OK},
		{lodging("1", "anna", 1, 1, ""), 0, 0, []int{-1, 0}, api.OK},
	} {
		l, e := lodge.Who(c.l, c.home, c.day)
		if !slices.Equal(l, c.want) || e != c.e {
			t.Errorf("%v, %d %d: %v, error %d, want %v, error %d", c.l, c.home, c.day, l, e, c.want, c.e)
		}
	}
}

// TestVerdict is about P5.2: whether a person is at a home or at none, and the
// errors in their order.
func TestVerdict(t *testing.T) {
	for _, c := range []struct {
		l                 api.Lodging
		person, home, day int
		want              int
		e                 api.Errno
	}{
		{exampleL(""), 0, 0, 0, api.Sure, api.OK},
		{exampleL(""), 1, 0, 1, api.Open, api.OK},
		{exampleL(""), 1, 0, 0, api.Out, api.OK},
		{exampleL(""), 1, -1, 1, api.Out, api.OK},
		{exampleL(""), 1, -1, 0, api.Open, api.OK},
		{exampleL(""), 1, 1, 0, api.Open, api.OK},
		{exampleL(""), 2, 0, 0, 0, api.ErrNoSuch},
		{exampleL(""), -1, 0, 0, 0, api.ErrNoSuch},
		{exampleL(""), 0, 2, 0, 0, api.ErrNoSuch},
		{exampleL(""), 0, -2, 0, 0, api.ErrNoSuch},
		{exampleL(""), 0, 0, 2, 0, api.ErrNoSuch},
		{exampleL(""), 0, -1, -1, 0, api.ErrNoSuch},
		{exampleL("cyd 0/1 0"), 0, 0, 0, 0, api.ErrClash},
		{exampleL("cyd 0/1 0"), 0, -1, 0, 0, api.ErrClash},
		{exampleL("cyd 0/1 0"), 0, -2, 0, 0, api.ErrNoSuch},
		{lodging("1", "anna ben", 2, 1, "ben 0/1 0, ben 0/1 1"), 0, -1, 1, api.Sure, api.OK},
	} {
		v, e := lodge.Verdict(c.l, c.person, c.home, c.day)
		if v != c.want || e != c.e {
			t.Errorf("%v, %d %d %d: %d, error %d, want %d, error %d", c.l, c.person, c.home, c.day, v, e, c.want, c.e)
		}
	}
}

// TestMoves is about P5.3: how often a person moves, and the errors of Moves in
// their order.
func TestMoves(t *testing.T) {
	for _, c := range []struct {
		l      api.Lodging
		person int
		want   api.Span
		e      api.Errno
	}{
		{exampleL(""), 0, api.Span{Low: 0, High: 1}, api.OK},
		{exampleL(""), 1, api.Span{Low: 0, High: 1}, api.OK},
		{exampleL(""), 2, api.Span{}, api.ErrNoSuch},
		{exampleL(""), -1, api.Span{}, api.ErrNoSuch},
		{exampleL("cyd 0/1 0"), 0, api.Span{}, api.ErrClash},
		{exampleL("cyd 0/1 0"), 2, api.Span{}, api.ErrNoSuch},
		{lodging("1", "anna", 1, 1, ""), 0, api.Span{}, api.OK},
		{lodging("1", "anna", 4, 1, ""), 0, api.Span{Low: 0, High: 3}, api.OK},
		{lodging("1", "anna", 3, 2, ""), 0, api.Span{Low: 0, High: 2}, api.OK},
		{lodging("1", "anna", 4, 4, ""), 0, api.Span{Low: 0, High: 2}, api.OK},
		{lodging("1 2", "anna", 4, 4, ""), 0, api.Span{Low: 0, High: 2}, api.OK},
		{lodging("1 2", "anna", 4, 1, ""), 0, api.Span{Low: 0, High: 3}, api.OK},
		{lodging("1 2", "anna", 4, 1, "anna 0/1 0, anna 0/2 3"), 0, api.Span{Low: 1, High: 3}, api.OK},
		{lodging("1 2", "anna", 2, 1, "anna 0/1 0, anna 0/2 1"), 0, api.Span{Low: 1, High: 1}, api.OK},
		{lodging("1", "anna ben", 3, 1, "anna 0/1 0, anna 0/1 2, ben 0/1 1"), 1, api.Span{Low: 2, High: 2}, api.OK},
	} {
		s, e := lodge.Moves(c.l, c.person)
		if s != c.want || e != c.e {
			t.Errorf("%v, %d: %v, error %d, want %v, error %d", c.l, c.person, s, e, c.want, c.e)
		}
	}
}

// TestSince is about P5.3: since when a person is at a home, and the errors of
// Since in their order.
func TestSince(t *testing.T) {
	for _, c := range []struct {
		l            api.Lodging
		person, home int
		want         api.Span
		e            api.Errno
	}{
		{exampleL(""), 1, 1, api.Span{Low: 0, High: 1}, api.OK},
		{exampleL(""), 0, 0, api.Span{Low: 0, High: 0}, api.OK},
		{exampleL(""), 1, 0, api.Span{Low: 1, High: 1}, api.OK},
		{exampleL(""), 2, 0, api.Span{}, api.ErrNoSuch},
		{exampleL(""), -1, 0, api.Span{}, api.ErrNoSuch},
		{exampleL(""), 0, 2, api.Span{}, api.ErrNoSuch},
		{exampleL(""), 0, -1, api.Span{}, api.ErrNoSuch},
		{exampleL("cyd 0/1 0"), 0, 0, api.Span{}, api.ErrClash},
		{exampleL("cyd 0/1 0"), 0, -1, api.Span{}, api.ErrNoSuch},
		{lodging("1", "anna ben", 1, 1, "ben 0/1 0"), 0, 0, api.Span{}, api.ErrNone},
		{lodging("1", "anna ben", 1, 1, ""), 0, 0, api.Span{}, api.OK},
		{lodging("1", "anna", 4, 1, ""), 0, 0, api.Span{Low: 0, High: 3}, api.OK},
		{lodging("1", "anna", 4, 4, "anna 0/1 1"), 0, 0, api.Span{Low: 0, High: 1}, api.OK},
		{lodging("1 2", "anna", 4, 1, "anna 0/2 1, anna 0/2 0"), 0, 0, api.Span{Low: 2, High: 3}, api.OK},
		{lodging("1 2", "anna", 4, 3, "anna 0/2 1, anna 0/2 3"), 0, 0, api.Span{Low: 0, High: 0}, api.OK},
	} {
		s, e := lodge.Since(c.l, c.person, c.home)
		if s != c.want || e != c.e {
			t.Errorf("%v, %d %d: %v, error %d, want %v, error %d", c.l, c.person, c.home, s, e, c.want, c.e)
		}
	}
}

// TestFollows is about P5.3: whether somebody is at a home after somebody else,
// and the errors of Follows in their order.
func TestFollows(t *testing.T) {
	for _, c := range []struct {
		l                   api.Lodging
		home, first, second int
		want                int
		e                   api.Errno
	}{
		{exampleL(""), 0, 0, 1, api.Open, api.OK},
		{exampleL(""), 0, 1, 0, api.Out, api.OK},
		{exampleL(""), 0, 0, 0, api.Open, api.OK},
		{exampleL(""), 0, 1, 1, api.Out, api.OK},
		{exampleL(""), 2, 0, 1, 0, api.ErrNoSuch},
		{exampleL(""), -1, 0, 1, 0, api.ErrNoSuch},
		{exampleL(""), 0, 2, 1, 0, api.ErrNoSuch},
		{exampleL(""), 0, -1, 1, 0, api.ErrNoSuch},
		{exampleL(""), 0, 0, 2, 0, api.ErrNoSuch},
		{exampleL(""), 0, 0, -1, 0, api.ErrNoSuch},
		{exampleL("cyd 0/1 0"), 0, 0, 1, 0, api.ErrClash},
		{exampleL("cyd 0/1 0"), 0, 0, 2, 0, api.ErrNoSuch},
		{lodging("1", "anna ben", 2, 1, "anna 0/1 0, ben 0/1 1"), 0, 0, 1, api.Sure, api.OK},
		{lodging("1", "anna ben", 2, 1, "anna 0/1 0, ben 0/1 1"), 0, 1, 0, api.Out, api.OK},
		{lodging("1", "anna ben", 3, 1, "anna 0/1 0, ben 0/1 2"), 0, 0, 1, api.Open, api.OK},
		{lodging("1", "anna ben", 4, 1, "anna 0/1 2, ben 0/1 3"), 0, 0, 1, api.Sure, api.OK},
		{lodging("1 2", "anna ben", 2, 1, "anna 0/1 0, ben 0/2 1"), 1, 0, 1, api.Out, api.OK},
		{lodging("1 2", "anna ben", 2, 1, "anna 0/2 0, ben 0/2 1"), 1, 0, 1, api.Sure, api.OK},
		{lodging("1", "anna", 1, 1, "anna 0/1 0"), 0, 0, 0, api.Out, api.OK},
		{lodging("1", "anna", 2, 1, "anna 0/1 0, anna 0/1 1"), 0, 0, 0, api.Sure, api.OK},
		{lodging("1", "anna", 2, 1, "anna 0/1 1"), 0, 0, 0, api.Open, api.OK},
	} {
		v, e := lodge.Follows(c.l, c.home, c.first, c.second)
		if v != c.want || e != c.e {
			t.Errorf("%v, %d %d %d: %d, error %d, want %d, error %d", c.l, c.home, c.first, c.second, v, e, c.want, c.e)
		}
	}
}

// TestAsk is about P5.6: the question that tells most.
func TestAsk(t *testing.T) {
	for _, c := range []struct {
		l                 api.Lodging
		person, day, left int
		e                 api.Errno
	}{
		{exampleL(""), 0, 1, 4, api.OK},
		{exampleL("anna 0/2 1"), 1, 0, 1, api.OK},
		{exampleL("cyd 0/1 0"), 0, 0, 0, api.ErrNone},
		{lodging("1", "anna", 1, 1, ""), 0, 0, 1, api.OK},
		{lodging("1", "anna", 1, 1, "anna 0/1 0"), 0, 0, 0, api.ErrNone},
		{lodging("1", "anna", 3, 1, ""), 0, 0, 4, api.OK},
		{lodging("1", "anna", 3, 1, "anna 0/1 0"), 0, 1, 2, api.OK},
		{lodging("1", "anna", 3, 2, "anna 0/1 0"), 0, 1, 2, api.OK},
		{lodging("1", "anna", 3, 2, ""), 0, 0, 4, api.OK},
		{lodging("1", "anna", 3, 2, "anna 0/1 1"), 0, 0, 2, api.OK},
		{lodging("1 2", "anna", 1, 1, ""), 0, 0, 1, api.OK},
		{lodging("1 2", "anna ben", 1, 1, "anna 0/1 0"), 1, 0, 1, api.OK},
		{lodging("1", "anna ben", 1, 1, ""), 0, 0, 2, api.OK},
		{lodging("1", "anna ben cyd", 1, 1, ""), 0, 0, 3, api.OK},
		// Truths that differ in their ways alone are different ones.
		{withSteps(lodging("1", "anna", 1, 1, ""), "turn 0, turn 0, turn 0", ""), 0, 0, 3, api.OK},
		{withSteps(lodging("1", "anna", 1, 1, "anna 0/1 0"), "turn 0, turn 0", ""), 0, 0, 0, api.ErrNone},
		{withSteps(lodging("1 2", "anna", 1, 1, "anna late 0/1 0"), "turn 0, turn 0, swap 0", ""), 0, 0, 2, api.OK},
	} {
		person, day, left, e := lodge.Ask(c.l)
		if person != c.person || day != c.day || left != c.left || e != c.e {
			t.Errorf("%v: %d %d %d, error %d, want %d %d %d, error %d", c.l, person, day, left, e, c.person, c.day, c.left, c.e)
		}
	}
}

// someLodgings goes through lodgings whose entries are true in some truth, with
// all their truths; now and then through some without a truth, too.
func someLodgings(state uint64, many int, clash bool, yield func(l api.Lodging, truths []truth)) {
	d := die{state: state}
	for many > 0 {
		l, _ := d.told(!clash)
		if truths := truthsOf(l); clash || len(truths) > 0 {
			yield(l, truths)
			many--
		}
	}
}

// TestAllPlaces is P5.7 and P5.2: Where, Who and Verdict are what all lives say
// that are gone through one by one.
func TestAllPlaces(t *testing.T) {
	m := met{}
	someLodgings(572, 400, true, func(l api.Lodging, truths []truth) {
		homes := len(homesOf(l))
		due := api.OK
		if len(truths) == 0 {
			due = api.ErrClash
			m["no truth"]++
		}
		for day := range l.Days {
			for person := range l.People {
				want := sofar(truths, func(t truth) int { return t.lives[person][day] })
				if got, e := lodge.Where(l, person, day); !slices.Equal(got, want) || e != due {
					t.Fatalf("%v: where %d is on %d: %v, error %d, want %v", l, person, day, got, e, want)
				}
				for home := -1; home < homes && due == api.OK; home++ {
					want := verdictOf(truths, func(t truth) bool { return t.lives[person][day] == home })
					if got, e := lodge.Verdict(l, person, home, day); got != want || e != api.OK {
						t.Fatalf("%v: whether %d is at %d on %d: %d, error %d, want %d", l, person, home, day, got, e, want)
					}
					m[[]string{"", "sure", "out", "open"}[want]]++
				}
			}
			for home := range homes {
				want := sofar(truths, func(t truth) int { return t.whoIs(home, day) })
				if got, e := lodge.Who(l, home, day); !slices.Equal(got, want) || e != due {
					t.Fatalf("%v: who is at %d on %d: %v, error %d, want %v", l, home, day, got, e, want)
				}
			}
		}
	})
	m.mustAll(t, 50, "no truth", "sure", "out", "open")
}

// TestAllTimes is P5.7 and P5.3: Moves, Since and Follows are what all lives say
// that are gone through one by one.
func TestAllTimes(t *testing.T) {
	m := met{}
	someLodgings(573, 400, false, func(l api.Lodging, truths []truth) {
		for person := range l.People {
			moves := sofar(truths, func(t truth) int { return t.moves(person) })
			want := api.Span{Low: moves[0], High: moves[len(moves)-1]}
			if got, e := lodge.Moves(l, person); got != want || e != api.OK {
				t.Fatalf("%v: moves of %d: %v, error %d, want %v", l, person, got, e, want)
			}
			for home := range homesOf(l) {
				since := sofar(truths, func(t truth) int { return slices.Index(t.lives[person], home) })
				since = slices.DeleteFunc(since, func(day int) bool { return day == -1 })
				want, due := api.Span{}, api.ErrNone
				if len(since) > 0 {
					want, due = api.Span{Low: since[0], High: since[len(since)-1]}, api.OK
					m["since"]++
				} else {
					m["never"]++
				}
				if got, e := lodge.Since(l, person, home); got != want || e != due {
					t.Fatalf("%v: since when %d is at %d: %v, error %d, want %v", l, person, home, got, e, want)
				}
				for second := range l.People {
					want := verdictOf(truths, func(t truth) bool { return t.follows(home, person, second) })
					if got, e := lodge.Follows(l, home, person, second); got != want || e != api.OK {
						t.Fatalf("%v: whether at %d %d follows %d: %d, error %d, want %d", l, home, second, person, got, e, want)
					}
					m[[]string{"", "sure", "out", "open"}[want]]++
				}
			}
		}
	})
	m.mustAll(t, 30, "since", "never", "sure", "out", "open")
}

// largest returns how many truths are left at most after the answer to a
// question.
func largest(truths []truth, person, day int) int {
	many := map[int]int{}
	most := 0
	for _, t := range truths {
		home := t.lives[person][day]
		many[home]++
		most = max(most, many[home])
	}
	return most
}

// TestAsked is P5.16: whatever the answer to Ask is, at most as many truths are
// left as it says, and no other question is better, nor as good and before it.
func TestAsked(t *testing.T) {
	m := met{}
	someLodgings(516, 500, true, func(l api.Lodging, truths []truth) {
		wantPerson, wantDay, wantLeft, due := 0, 0, 0, api.ErrNone
		for person := range l.People {
			for day := range l.Days {
				n := largest(truths, person, day)
				if n < len(truths) && (due != api.OK || n < wantLeft) {
					wantPerson, wantDay, wantLeft, due = person, day, n, api.OK
				}
			}
		}
		person, day, left, e := lodge.Ask(l)
		if person != wantPerson || day != wantDay || left != wantLeft || e != due {
			t.Fatalf("%v: %d %d %d, error %d, want %d %d %d, error %d", l, person, day, left, e, wantPerson, wantDay, wantLeft, due)
		}
		switch {
		case len(truths) == 0:
			m["no truth"]++
		case e == api.ErrNone:
			m["nothing to ask"]++
		case person > 0:
			m["a later person"]++
		case day > 0:
			m["a later day"]++
		default:
			m["the first question"]++
		}
	})
	m.mustAll(t, 20, "no truth", "nothing to ask", "a later person", "a later day", "the first question")
}

// TestAgree is P5.8: a person is among those of Who of a home just if the home
// is among those of Where, and Verdict is Sure just if there is nothing else,
// Out just if it is not there.
func TestAgree(t *testing.T) {
	someLodgings(58, 200, false, func(l api.Lodging, _ []truth) {
		for day := range l.Days {
			for person := range l.People {
				where, e := lodge.Where(l, person, day)
				mustBe(t, "Where", e, api.OK)
				for home := -1; home < len(homesOf(l)); home++ {
					want := api.Out
					switch {
					case slices.Equal(where, []int{home}):
						want = api.Sure
					case slices.Contains(where, home):
						want = api.Open
					}
					if v, e := lodge.Verdict(l, person, home, day); v != want || e != api.OK {
						t.Fatalf("%v, %d %d %d: %d, error %d, with %v", l, person, home, day, v, e, where)
					}
					if home == -1 {
						continue
					}
					who, e := lodge.Who(l, home, day)
					if slices.Contains(who, person) != slices.Contains(where, home) || e != api.OK {
						t.Fatalf("%v, %d: %d can be at %v, but %v at %d", l, day, person, where, who, home)
					}
				}
			}
		}
	})
}

// TestOneHome is P5.12: no home surely has two people on a day, and nobody is
// surely at two homes.
func TestOneHome(t *testing.T) {
	sure := 0
	someLodgings(512, 300, false, func(l api.Lodging, _ []truth) {
		for day := range l.Days {
			has := map[int]int{}
			for person := range l.People {
				homes := 0
				for home := -1; home < len(homesOf(l)); home++ {
					v, e := lodge.Verdict(l, person, home, day)
					mustBe(t, "Verdict", e, api.OK)
					if v == api.Sure {
						homes++
						has[home]++
					}
				}
				if homes > 1 {
					t.Fatalf("%v: %d is surely at %d homes on %d", l, person, homes, day)
				}
				sure += homes
			}
			for home, n := range has {
				if home != -1 && n > 1 {
					t.Fatalf("%v: the home %d surely has %d people on %d", l, home, n, day)
				}
			}
		}
	})
	if sure < 50 {
		t.Errorf("sure only %d times", sure)
	}
}

// TestFirst is P5.17: Since is 0 just if the person can be at the home on the
// day 0, and the days that it tells are some on which Where has the home.
func TestFirst(t *testing.T) {
	m := met{}
	someLodgings(517, 300, false, func(l api.Lodging, _ []truth) {
		for person := range l.People {
			for home := range homesOf(l) {
				var days []int
				for day := range l.Days {
					if where, _ := lodge.Where(l, person, day); slices.Contains(where, home) {
						days = append(days, day)
					}
				}
				s, e := lodge.Since(l, person, home)
				if len(days) == 0 {
					mustBe(t, "never", e, api.ErrNone)
					m["never"]++
					continue
				}
				if s.Low != days[0] || !slices.Contains(days, s.High) || s.High < s.Low || e != api.OK {
					t.Fatalf("%v, %d %d: %v, error %d, with the days %v", l, person, home, s, e, days)
				}
				if s.Low == 0 {
					m["from the day 0 on"]++
				} else {
					m["later"]++
				}
			}
		}
	})
	m.mustAll(t, 50, "never", "from the day 0 on", "later")
}
