package kin_test

import (
	"slices"
	"testing"

	"wayzgoose/api"
	"wayzgoose/kin"
)

// TestWrong is about P8.4: the facts that must be false, and those that
// contradict each other.
func TestWrong(t *testing.T) {
	four := func(facts string) api.Kin {
		return withFacts(plain("ann 0/1, ann 0/2, ann 0/3, ann 0/4", "ann 0/1, ann 0/2, ann 0/3, ann 0/4", ""), ties(facts)...)
	}
	for _, c := range []struct {
		what         string
		k            api.Kin
		wrong, clash []int
		e, f         api.Errno
	}{
		{"K", exampleK(""), nil, nil, api.OK, api.ErrNone},
		{"K2 with two facts", exampleK2("2=1 0=1"), []int{0}, []int{0, 1}, api.OK, api.OK},
		{"K with them", exampleK("2=1 0=1"), []int{1}, []int{1}, api.OK, api.OK},
		{"K with Gone 0", withLimits(exampleK(""), 0, 1, 1), nil, nil, api.ErrNone, api.OK},
		{"K with Gone 0 and facts", withLimits(exampleK("0=0 0=1"), 0, 1, 1), nil, nil, api.ErrNone, api.OK},
		{"K with facts that are so", exampleK("0=0 2=1 0!1"), nil, nil, api.OK, api.ErrNone},
		{"K with Gone 5", withLimits(exampleK("0=1"), 5, 1, 1), nil, nil, api.ErrRange, api.ErrRange},
		{"facts of people who are apart", exampleK("1=0 1=1 1=2 0=2"), []int{0, 1, 2, 3}, []int{0}, api.OK, api.OK},
		{"one of them behind others", exampleK2("0=0 1=1"), []int{1}, []int{1}, api.OK, api.OK},
		{"four of one old one", four("0=0 0=1 0=2 0=3"), []int{0, 1, 2}, []int{0, 1}, api.OK, api.OK},
		{"four of one new one", four("0=3 1=3 2=3 3=3"), []int{0, 1, 2}, []int{0, 1}, api.OK, api.OK},
		{"one against two", four("1=1 0=1 1=0"), []int{0}, []int{0, 1}, api.OK, api.OK},
		{"two against two", four("0=0 1=1 0=1 1=0"), []int{0, 1}, []int{0, 2}, api.OK, api.OK},
		{"the first and the last, or the other two", four("0=0 0=1 1=0 1=1"), []int{0, 3}, []int{0, 1}, api.OK, api.OK},
		{"the first against the last", four("0=0 1=2 1=3 0=1"), []int{0, 1}, []int{0, 3}, api.OK, api.OK},
		{"a pair behind", four("2=2 3=3 0=1 1=1"), []int{2}, []int{2, 3}, api.OK, api.OK},
		{"nobody is left", withLimits(four("0!0 0!1 0!2 0!3"), 0, 0, 4), []int{0}, []int{0, 1, 2, 3}, api.OK, api.OK},
		{"three who have moved", withLimits(four("0=1 1=2 2=0 3=3"), 4, 4, 2), []int{0}, []int{0, 1, 2}, api.OK, api.OK},
		{"nobody has moved", withLimits(four("0=1 1=0 2=3 3=3"), 4, 4, 0), []int{0, 1, 2}, []int{0}, api.OK, api.OK},
	} {
		wrong, e := kin.Wrong(c.k)
		clash, f := kin.Clash(c.k)
		if !slices.Equal(wrong, c.wrong) || !slices.Equal(clash, c.clash) || e != c.e || f != c.f {
			t.Errorf("%s: %v, error %d, and %v, error %d, want %v and %v", c.what, wrong, e, clash, f, c.wrong, c.clash)
		}
	}
}

// firstList returns the first list of facts, those with fewer first, then in
// lexicographic order, that is good, or false if there is none.
func firstList(facts int, good func([]int) bool) ([]int, bool) {
	all := subsets(facts)
	n := slices.IndexFunc(all, good)
	if n == -1 {
		return nil, false
	}
	return all[n], true
}

// TestFewest is P8.4, P8.12 and P8.13: all lists of facts are tried.
func TestFewest(t *testing.T) {
	m := met{}
	numbers := []string{"none", "one", "two", "three", "four"}
	check := func(what string, k api.Kin, l []int, e api.Errno, want []int, some bool) {
		due := api.OK
		if !some {
			due = api.ErrNone
		}
		if !slices.Equal(l, want) || e != due {
			t.Fatalf("%v: %s %v, error %d, want %v, error %d", k, what, l, e, want, due)
		}
		m[what+" "+numbers[len(l)]]++
		if !some {
			m[what+" error"]++
		}
	}
	d := die{state: 812}
	someKin(812, 1500, true, func(s scene, _ []truth) {
		for len(s.Facts) < d.throw(api.MaxTies+1) {
			x, ok := d.fact(s.Kin)
			if !ok {
				break
			}
			s.Kin = withFact(s.Kin, x)
		}
		n := len(s.Facts)
		want, some := firstList(n, func(l []int) bool { return len(s.truthsWith(without(n, l))) > 0 })
		wrong, e := kin.Wrong(s.Kin)
		check("wrong", s.Kin, wrong, e, want, some)
		want, some = firstList(n, func(l []int) bool { return len(s.truthsWith(l)) == 0 })
		clash, e := kin.Clash(s.Kin)
		check("clash", s.Kin, clash, e, want, some)
	})
	m.mustAll(t, 100, "wrong error", "clash error", "wrong none", "clash none", "wrong one", "clash one")
	m.mustAll(t, 5, "wrong two", "clash two", "wrong three")
}

// TestStruck is P8.12 and P8.13 as Truths tells it: without the facts of Wrong
// there is a truth; with those of Clash alone there is none, without any one of
// these there is one.
func TestStruck(t *testing.T) {
	m := met{}
	someKin(813, 1000, true, func(s scene, truths []truth) {
		some := func(facts []int) bool {
			k := withFacts(s.Kin)
			for _, n := range facts {
				k = withFact(k, s.Facts[n])
			}
			n, e := kin.Truths(k)
			mustBe(t, "Truths", e, api.OK)
			return n > 0
		}
		if wrong, e := kin.Wrong(s.Kin); e == api.OK {
			if !some(without(len(s.Facts), wrong)) {
				t.Fatalf("%v: no truth without %v", s.Kin, wrong)
			}
			m["wrong"] += len(wrong)
		} else if some(nil) {
			t.Fatalf("%v: error %d, but there is a truth", s.Kin, e)
		}
		clash, e := kin.Clash(s.Kin)
		if e != api.OK {
			return
		}
		if some(clash) || len(truths) > 0 {
			t.Fatalf("%v: a truth with %v", s.Kin, clash)
		}
		for n := range clash {
			if !some(slices.Delete(slices.Clone(clash), n, n+1)) {
				t.Fatalf("%v: no truth with fewer than %v", s.Kin, clash)
			}
			m["clash"]++
		}
	})
	m.mustAll(t, 50, "wrong", "clash")
}

// TestAdd is about P8.5: kin with one fact more, and the errors of Add in their
// order.
func TestAdd(t *testing.T) {
	full := exampleK2("0=0 0!1 2=1 2!0")
	for _, c := range []struct {
		what string
		k    api.Kin
		x    string
		e    api.Errno
		n    int // how many truths there are then
	}{
		{"0 and 1 in K", exampleK(""), "0=1", api.ErrClash, 0},
		{"0 and 1 in K2", exampleK2(""), "0=1", api.OK, 2},
		{"0 and 0 in K", exampleK(""), "0=0", api.OK, 2},
		{"0 and 0 are not the same, in K", exampleK(""), "0!0", api.ErrClash, 0},
		{"0 and 0 are not the same, in K2", exampleK2(""), "0!0", api.OK, 2},
		{"1 and 1 are not the same", exampleK(""), "1!1", api.OK, 2},
		{"1 and 1 are the same", exampleK(""), "1=1", api.ErrClash, 0},
		{"the fourth fact", exampleK2("0=0 0!1 2=1"), "2!0", api.OK, 2},
		{"the fourth fact, a false one", exampleK2("0=0 0!1 2=1"), "2=0", api.ErrClash, 0},
		{"the fifth fact", full, "1!1", api.ErrFull, 0},
		{"a fifth fact of nobody", full, "3=0", api.ErrFull, 0},
		{"a fifth fact that is there", full, "0=0", api.ErrFull, 0},
		{"a fact of no old one", exampleK(""), "3=0", api.ErrNoSuch, 0},
		{"a fact of no new one", exampleK(""), "0=3", api.ErrNoSuch, 0},
		{"a fact that is there", exampleK("0=0"), "0=0", api.ErrRepeated, 0},
		{"the contrary of one", exampleK("0=0"), "0!0", api.ErrRepeated, 0},
		{"another fact of the old one", exampleK2("0=0"), "0!1", api.OK, 2},
		{"one more where there is no truth", exampleK("0=1"), "1=1", api.OK, 0},
		{"a true one where there is no truth", withLimits(exampleK(""), 0, 1, 1), "0=0", api.OK, 0},
		{"bad kin", withLimits(exampleK(""), 1, -1, 1), "3=0", api.ErrRange, 0},
	} {
		x := tie(c.x)
		m, e := kin.Add(c.k, x)
		want := api.Kin{}
		if c.e == api.OK {
			want = withFact(c.k, x)
		}
		if !same(m, want) || e != c.e {
			t.Errorf("%s: %v, error %d, want %v, error %d", c.what, m, e, want, c.e)
		}
		if n, e := kin.Truths(m); c.e == api.OK && (n != c.n || e != api.OK) {
			t.Errorf("%s: %d truths, error %d, want %d", c.what, n, e, c.n)
		}
	}
	for _, x := range []api.Tie{{A: -1}, {B: -1}} {
		if _, e := kin.Add(exampleK(""), x); e != api.ErrNoSuch {
			t.Errorf("%v: error %d", x, e)
		}
	}
}

// TestAdded is P8.5 and P8.20: Add returns ErrClash just if the Verdict is Out
// for a fact that says that two are the same, or Sure for one that says that
// they are not.
func TestAdded(t *testing.T) {
	m := met{}
	someKin(820, 600, true, func(s scene, truths []truth) {
		for a := range s.Before {
			for b := range s.After {
				isMet := func(y api.Tie) bool { return y.A == a && y.B == b }
				if slices.ContainsFunc(s.Facts, isMet) || len(s.Facts) == api.MaxTies {
					continue
				}
				v, _ := kin.Verdict(s.Kin, a, b)
				for _, same := range []bool{true, false} {
					x := api.Tie{A: a, B: b, Same: same}
					m[mustBeAdded(t, s.Kin, x, len(truths) > 0, same && v == api.Out || !same && v == api.Sure)]++
				}
			}
		}
	})
	m.mustAll(t, 100, "clash", "added", "added without a truth")
}

// mustBeAdded fails unless Add returns kin with a fact, or ErrClash if there
// are truths, but none with it. It returns what Add did.
func mustBeAdded(t *testing.T, k api.Kin, x api.Tie, some, clash bool) string {
	t.Helper()
	want, due, did := withFact(k, x), api.OK, "added"
	if !some {
		did = "added without a truth"
	} else if clash {
		want, due, did = api.Kin{}, api.ErrClash, "clash"
	}
	if got, e := kin.Add(k, x); !same(got, want) || e != due {
		t.Fatalf("%v, %v: %v, error %d, want error %d", k, x, got, e, due)
	}
	return did
}

// TestFacts is P8.11: the truths with a fact and those with its contrary are
// all truths together; a fact that is so in all truths changes nothing else.
func TestFacts(t *testing.T) {
	m := met{}
	d := die{state: 811}
	someKin(811, 600, false, func(s scene, truths []truth) {
		x, ok := d.fact(s.Kin)
		if !ok || len(s.Facts) == api.MaxTies {
			return
		}
		contrary := x
		contrary.Same = !x.Same
		with, e := kin.Truths(withFact(s.Kin, x))
		other, f := kin.Truths(withFact(s.Kin, contrary))
		if with+other != len(truths) || e != api.OK || f != api.OK {
			t.Fatalf("%v, %v: %d truths and %d, but %d together", s.Kin, x, with, other, len(truths))
		}
		switch {
		case other == 0:
			// Least is about all pairings, whether they are those of a truth or not.
			mustBeAlike(t, s.Kin, withFact(s.Kin, x), "Apart", "Least", "Add")
			m["so in all truths"]++
		case with == 0:
			m["so in none"]++
		default:
			m["so in some"]++
		}
	})
	m.mustAll(t, 50, "so in all truths", "so in none", "so in some")
}
