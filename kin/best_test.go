package kin_test

import (
	"cmp"
	"slices"
	"testing"

	"wayzgoose/api"
	"wayzgoose/kin"
)

// TestBest is about P8.3: the truth with the most pairs, then the fewest that
// have moved, then the first list.
func TestBest(t *testing.T) {
	three := plain("ann 0/1, ann 0/2, ann 0/3", "ann 0/3, ann 0/1, ann 0/4", "")
	for _, c := range []struct {
		what string
		k    api.Kin
		want string
		e    api.Errno
	}{
		{"K", exampleK(""), "0 0, 2 1", api.OK},
		{"K2", exampleK2(""), "0 0, 2 1", api.OK},
		{"K2 with a fact", exampleK2("0=1"), "0 1, 2 0", api.OK},
		{"K with a fact", exampleK("0=1"), "", api.ErrClash},
		{"K with Gone 5", withLimits(exampleK(""), 5, 1, 1), "", api.ErrRange},
		{"nobody", plain("", "", ""), "", api.OK},
		{"nobody is the same", plain("ann 0/1", "ben 0/1", ""), "", api.OK},
		{"the fewest that have moved", three, "0 1, 1 2, 2 0", api.OK},
		{"with a fact", withFact(three, tie("0=0")), "0 0, 1 1, 2 2", api.OK},
		{"nobody has moved", withLimits(three, 4, 4, 0), "0 1, 2 0", api.OK},
		{"two old ones for one new one", plain("ann 0/1, ann 0/1", "ann 0/2", ""), "0 0", api.OK},
		{"one of the two stays", plain("ann 0/1, ann 0/2", "ann 0/2", ""), "1 0", api.OK},
		{"two new ones for one old one", plain("ann 0/1", "ann 0/2, ann 0/2", ""), "0 0", api.OK},
		{"pairs are more than those who stay", withFact(plain("ann 0/1, ann 0/2", "ann 0/1, ann 0/3", ""), tie("1!1")), "0 1, 1 0", api.OK},
		{"one more pair, whoever moves", withFact(plain("ann 0/1, ann 0/2", "ann 0/2, ann 0/1", ""), tie("1!0")), "0 0, 1 1", api.OK},
	} {
		if l, e := kin.Best(c.k); !samePairs(l, pairs(c.want)) || e != c.e {
			t.Errorf("%s: %v, error %d, want %v, error %d", c.what, l, e, c.want, c.e)
		}
	}
}

// comparePairs compares two lists of pairs in lexicographic order.
func comparePairs(a, b [][]int) int { return slices.CompareFunc(a, b, slices.Compare[[]int]) }

// TestAllBest is P8.3 and P8.18: Best is the best of all truths; its pairs fit,
// nobody is twice, and no truth has more pairs.
func TestAllBest(t *testing.T) {
	m := met{}
	someKin(818, 1000, false, func(s scene, truths []truth) {
		sorted := slices.SortedFunc(slices.Values(truths), func(u, v truth) int {
			_, _, moved := u.counts(s.Kin)
			_, _, other := v.counts(s.Kin)
			more := cmp.Compare(len(v.pairs()), len(u.pairs()))
			return cmp.Or(more, cmp.Compare(moved, other), comparePairs(u.pairs(), v.pairs()))
		})
		best, e := kin.Best(s.Kin)
		if !samePairs(best, sorted[0].pairs()) || e != api.OK {
			t.Fatalf("%v: %v, error %d, want %v", s.Kin, best, e, sorted[0].pairs())
		}
		var old, new []int
		for _, p := range best {
			if l, e := kin.Apart(s.Kin, p[0], p[1]); len(l) > 0 || e != api.OK || slices.Contains(old, p[0]) || slices.Contains(new, p[1]) {
				t.Fatalf("%v: %v: %v keeps %v apart, error %d, or somebody is twice", s.Kin, best, l, p, e)
			}
			old, new = append(old, p[0]), append(new, p[1])
		}
		if gone, _ := kin.Gone(s.Kin); gone.Low != len(s.Before)-len(best) {
			t.Fatalf("%v: %v, but %d have gone at least", s.Kin, best, gone.Low)
		}
		holds := func(u truth) bool { return samePairs(u.pairs(), best) }
		if !slices.ContainsFunc(truths, holds) {
			t.Fatalf("%v: %v is no truth", s.Kin, best)
		}
		second := slices.IndexFunc(sorted, func(u truth) bool { return !holds(u) })
		switch {
		case second == -1:
			m["no other"]++
		case len(sorted[second].pairs()) < len(best):
			m["fewer pairs"]++
		default:
			m["as many pairs"]++
		}
	})
	m.mustAll(t, 50, "no other", "fewer pairs", "as many pairs")
}

// TestAsk is about P8.6: the question that should be asked first.
func TestAsk(t *testing.T) {
	split := withLimits(plain("ann 0/1, ann 0/1", "ann 0/1, ann 0/1", ""), 0, 0, 4)
	for _, c := range []struct {
		what       string
		k          api.Kin
		a, b, left int
		e          api.Errno
	}{
		{"K", exampleK(""), 0, 0, 0, api.ErrNone},
		{"K2", exampleK2(""), 0, 0, 2, api.OK},
		{"K2 with a fact", exampleK2("0=1"), 0, 0, 0, api.ErrNone},
		{"K without a truth", withLimits(exampleK(""), 0, 1, 1), 0, 0, 0, api.ErrClash},
		{"K with Gone 5", withLimits(exampleK(""), 5, 1, 1), 0, 0, 0, api.ErrRange},
		{"nobody", plain("", "", ""), 0, 0, 0, api.ErrNone},
		{"nobody after", plain("ann 0/1", "", ""), 0, 0, 0, api.ErrNone},
		{"who may have gone", plain("ben 0/1, ann 0/1", "cad 0/1, ann 0/1", ""), 1, 1, 1, api.OK},
		{"one of two", split, 0, 0, 1, api.OK},
		{"one of two, or gone", withLimits(split, 4, 4, 4), 0, 0, 5, api.OK},
		{"a later one is better", plain("ann 0/1, ben 0/1", "ann 0/1, ann 0/2, ben 0/1", ""), 1, 2, 3, api.OK},
		{"the lesser new one of two", plain("ann 0/1", "ben 0/1, ann 0/1, ann 0/1", ""), 0, 1, 2, api.OK},
		{"the lesser old one of two", plain("ben 0/1, ann 0/1, ann 0/1", "ann 0/1", ""), 1, 0, 2, api.OK},
	} {
		if a, b, left, e := kin.Ask(c.k); a != c.a || b != c.b || left != c.left || e != c.e {
			t.Errorf("%s: %d %d, %d left, error %d", c.what, a, b, left, e)
		}
	}
}

// TestAllAsked is P8.6 and P8.14: whatever the answer to Ask is, at most as many
// truths are left as it says, as Add tells, and no other question is better.
func TestAllAsked(t *testing.T) {
	m := met{}
	someKin(814, 600, false, func(s scene, truths []truth) {
		if len(s.Facts) == api.MaxTies {
			s.Kin.Facts = s.Facts[1:]
		}
		n, e := kin.Truths(s.Kin)
		mustBe(t, "Truths", e, api.OK)
		best, at := n, [2]int{}
		for a := range s.Before {
			for b := range s.After {
				if left := leftAfter(t, s.Kin, a, b); left < best {
					best, at = left, [2]int{a, b}
				}
			}
		}
		a, b, left, e := kin.Ask(s.Kin)
		if best == n {
			if e != api.ErrNone || a != 0 || b != 0 || left != 0 {
				t.Fatalf("%v: %d %d, %d left, error %d", s.Kin, a, b, left, e)
			}
			m["nothing to ask"]++
			if n > 1 {
				m["one pairing in several truths"]++
			}
			return
		}
		if a != at[0] || b != at[1] || left != best || e != api.OK {
			t.Fatalf("%v: %d %d, %d left of %d, error %d, want %v, %d left", s.Kin, a, b, left, n, e, at, best)
		}
		m["asked"]++
		if 2*left == n {
			m["half of the truths"]++
		}
	})
	m.mustAll(t, 20, "nothing to ask", "one pairing in several truths", "asked", "half of the truths")
}

// leftAfter returns how many truths are left at most after a question, as Add
// tells. Kin with the fact already have but one answer.
func leftAfter(t *testing.T, k api.Kin, a, b int) int {
	t.Helper()
	most := 0
	for _, same := range []bool{true, false} {
		m, e := kin.Add(k, api.Tie{A: a, B: b, Same: same})
		switch e {
		case api.OK:
			n, _ := kin.Truths(m)
			most = max(most, n)
		case api.ErrRepeated:
			most, _ = kin.Truths(k)
		case api.ErrClash:
		default:
			t.Fatalf("%v, %d %d: error %d", k, a, b, e)
		}
	}
	return most
}
