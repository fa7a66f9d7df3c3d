package kin_test

import (
	"slices"
	"testing"

	"wayzgoose/api"
	"wayzgoose/kin"
)

// TestTruths is about P8.1: how many truths there are.
func TestTruths(t *testing.T) {
	two := plain("ann 0/1, ben 0/2", "ann 0/1, ben 0/2", "")
	twice := plain("ann 0/1, ben 0/2", "ann 0/3, ben 0/4", "")
	twice.Story.Steps = []api.Step{step(turn(0), swap(0), turn(0))}
	divided := plain("ann 0/1", "ann 0/2", "")
	divided.Story = story("[1 2]", step(divide(0, 1), join(0, 0)))
	for _, c := range []struct {
		what string
		k    api.Kin
		want int
		e    api.Errno
	}{
		{"K", exampleK(""), 2, api.OK},
		{"K2", exampleK2(""), 4, api.OK},
		{"K with Gone 0", withLimits(exampleK(""), 0, 1, 1), 0, api.OK},
		{"K with New 0", withLimits(exampleK(""), 1, 0, 1), 0, api.OK},
		{"K with Moved 0", withLimits(exampleK(""), 1, 1, 0), 1, api.OK},
		{"K with Moved 5", withLimits(exampleK(""), 1, 1, 5), 0, api.ErrRange},
		{"K with the greatest limits", withLimits(exampleK(""), 4, 4, 4), 14, api.OK},
		{"K with a fact that is so", exampleK("0=0"), 2, api.OK},
		{"K with a fact of two who are apart", exampleK("0=2"), 0, api.OK},
		{"K with facts of one old one and two new ones", withLimits(exampleK("0=0 0=1"), 4, 4, 4), 0, api.OK},
		{"K with facts of two old ones and one new one", withLimits(exampleK("0=0 2=0"), 4, 4, 4), 0, api.OK},
		{"K with a fact that two are not the same", withLimits(exampleK("0!0"), 4, 4, 4), 10, api.OK},
		{"nobody", plain("", "", ""), 1, api.OK},
		{"nobody before", plain("", "ann 0/1", ""), 1, api.OK},
		{"nobody after, and one may have gone", withLimits(plain("ann 0/1", "", ""), 1, 0, 0), 1, api.OK},
		{"nobody after, but nobody has gone", withLimits(plain("ann 0/1", "", ""), 0, 4, 4), 0, api.OK},
		{"nobody before, but nobody has come", withLimits(plain("", "ann 0/1", ""), 4, 0, 4), 0, api.OK},
		{"two names", two, 4, api.OK},
		{"two names, nobody gone", withLimits(two, 0, 4, 4), 1, api.OK},
		{"a story of three ways, two of them alike", withLimits(twice, 4, 4, 0), 4 + 1 + 4, api.OK},
		{"four who are all alike", plain("ann 0/1, ann 0/1, ann 0/1, ann 0/1", "ann 0/1, ann 0/1, ann 0/1, ann 0/1", ""), 209, api.OK},
		{"four who are all alike, nobody gone", withLimits(plain("ann 0/1, ann 0/2, ann 0/3, ann 0/4", "ann 0/1, ann 0/2, ann 0/3, ann 0/4", ""), 0, 0, 2), 7, api.OK},
		{"a step that can be made but one way", divided, 2, api.OK},
	} {
		if n, e := kin.Truths(c.k); n != c.want || e != c.e {
			t.Errorf("%s: %d, error %d, want %d, error %d", c.what, n, e, c.want, c.e)
		}
	}
}

// TestPairs is about P8.2: the pairs of some truth, and those of every one.
func TestPairs(t *testing.T) {
	for _, c := range []struct {
		what      string
		k         api.Kin
		all, must string
		e         api.Errno
	}{
		{"K", exampleK(""), "0 0, 2 1", "0 0, 2 1", api.OK},
		{"K2", exampleK2(""), "0 0, 0 1, 2 0, 2 1", "", api.OK},
		{"K2 with a fact", exampleK2("0=1"), "0 1, 2 0", "0 1, 2 0", api.OK},
		{"K without a truth", withLimits(exampleK(""), 0, 1, 1), "", "", api.ErrClash},
		{"K with bold people", api.Kin{Story: story("[1]"), Before: []api.Person{{Name: "ann", Number: 1, Head: -1, Bold: true}}}, "", "", api.ErrClash},
		{"nobody", plain("", "", ""), "", "", api.OK},
		{"one who may have gone", plain("ann 0/1", "ann 0/1", ""), "0 0", "", api.OK},
		{"one who has not", withLimits(plain("ann 0/1", "ann 0/1", ""), 0, 0, 0), "0 0", "0 0", api.OK},
		{"no facts", api.Kin{}, "", "", api.ErrShort},
	} {
		all, e := kin.Pairs(c.k)
		must, f := kin.Must(c.k)
		if !samePairs(all, pairs(c.all)) || !samePairs(must, pairs(c.must)) || e != c.e || f != c.e {
			t.Errorf("%s: %v, error %d, and %v, error %d", c.what, all, e, must, f)
		}
	}
}

// TestVerdict is about P8.2: whether two people are a pair, and the errors in
// their order.
func TestVerdict(t *testing.T) {
	clash := withLimits(exampleK(""), 0, 1, 1)
	for _, c := range []struct {
		k    api.Kin
		a, b int
		want int
		e    api.Errno
	}{
		{exampleK(""), 0, 0, api.Sure, api.OK},
		{exampleK(""), 0, 1, api.Out, api.OK},
		{exampleK(""), 1, 1, api.Out, api.OK},
		{exampleK(""), 2, 1, api.Sure, api.OK},
		{exampleK2(""), 0, 0, api.Open, api.OK},
		{exampleK2(""), 1, 2, api.Out, api.OK},
		{exampleK2("0!0"), 0, 1, api.Sure, api.OK},
		{clash, 0, 0, 0, api.ErrClash},
		{clash, 3, 0, 0, api.ErrNoSuch},
		{exampleK(""), 3, 0, 0, api.ErrNoSuch},
		{exampleK(""), -1, 0, 0, api.ErrNoSuch},
		{exampleK(""), 0, 3, 0, api.ErrNoSuch},
		{exampleK(""), 0, -1, 0, api.ErrNoSuch},
		{withLimits(exampleK(""), -1, 1, 1), 3, 0, 0, api.ErrRange},
	} {
		if v, e := kin.Verdict(c.k, c.a, c.b); v != c.want || e != c.e {
			t.Errorf("%v, %d %d: %d, error %d, want %d, error %d", c.k, c.a, c.b, v, e, c.want, c.e)
		}
	}
}

// TestFate is about P8.2: what somebody can have become, who they can have been,
// and whether they stay.
func TestFate(t *testing.T) {
	clash := withLimits(exampleK(""), 0, 1, 1)
	wide := withLimits(exampleK(""), 4, 4, 4)
	fallen := withLimits(plain("ann 0/1", "ann 0/1", ""), 0, 0, 4)
	fallen.Story.Steps = []api.Step{step(fell(0, 1))}
	divided := withLimits(plain("ann 0/1", "ann 0/1", ""), 0, 0, 4)
	divided.Story.Steps = []api.Step{step(divide(0, 1)), step(divide(0, 1), fell(0, 1))}
	for _, c := range []struct {
		what         string
		k            api.Kin
		at           int
		fate, origin []int
		stays        int
		e            api.Errno
	}{
		{"K", exampleK(""), 0, []int{0}, []int{0}, api.Open, api.OK},
		{"K", exampleK(""), 1, []int{-1}, []int{2}, api.Out, api.OK},
		{"K", exampleK(""), 2, []int{1}, []int{-1}, api.Sure, api.OK},
		{"K2", exampleK2(""), 0, []int{0, 1}, []int{0, 2}, api.Open, api.OK},
		{"K2", exampleK2(""), 1, []int{-1}, []int{0, 2}, api.Out, api.OK},
		{"K2", exampleK2(""), 2, []int{0, 1}, []int{-1}, api.Open, api.OK},
		{"K with the greatest limits", wide, 0, []int{-1, 0, 1}, []int{-1, 0, 2}, api.Open, api.OK},
		{"K without a truth", clash, 0, nil, nil, 0, api.ErrClash},
		{"K without a truth", clash, 3, nil, nil, 0, api.ErrNoSuch},
		{"K", exampleK(""), 3, nil, nil, 0, api.ErrNoSuch},
		{"K", exampleK(""), -1, nil, nil, 0, api.ErrNoSuch},
		{"K with Gone -1", withLimits(exampleK(""), -1, 1, 1), 3, nil, nil, 0, api.ErrRange},
		{"somebody whose house was pulled down", fallen, 0, []int{0}, []int{0}, api.Out, api.OK},
		{"somebody whose house was divided, and pulled down then or not", divided, 0, []int{0}, []int{0}, api.Open, api.OK},
		{"one who may have gone", plain("ann 0/1", "ann 0/1", ""), 0, []int{-1, 0}, []int{-1, 0}, api.Open, api.OK},
	} {
		fate, e := kin.Fate(c.k, c.at)
		origin, f := kin.Origin(c.k, c.at)
		stays, g := kin.Stays(c.k, c.at)
		if !slices.Equal(fate, c.fate) || !slices.Equal(origin, c.origin) || stays != c.stays || e != c.e || f != c.e || g != c.e {
			t.Errorf("%s, %d: %v, error %d, %v, error %d, %d, error %d", c.what, c.at, fate, e, origin, f, stays, g)
		}
	}
	few := plain("ann 0/1", "ben 0/1, ann 0/1", "")
	if _, e := kin.Fate(few, 1); e != api.ErrNoSuch {
		t.Errorf("Fate of no old one: error %d", e)
	}
	if _, e := kin.Stays(few, 1); e != api.ErrNoSuch {
		t.Errorf("Stays of no old one: error %d", e)
	}
	if l, e := kin.Origin(few, 1); !slices.Equal(l, []int{-1, 0}) || e != api.OK {
		t.Errorf("Origin: %v, error %d", l, e)
	}
	if _, e := kin.Verdict(few, 1, 0); e != api.ErrNoSuch {
		t.Errorf("Verdict of no old one: error %d", e)
	}
}

// TestSpans is about P8.3: how many have gone, come and moved, and their least
// sum.
func TestSpans(t *testing.T) {
	of := func(low, high int) api.Span { return api.Span{Low: low, High: high} }
	var zero api.Span
	for _, c := range []struct {
		what             string
		k                api.Kin
		gone, new, moved api.Span
		least            int
		e, f             api.Errno
	}{
		{"K", exampleK(""), of(1, 1), of(1, 1), of(0, 1), 2, api.OK, api.OK},
		{"K2", exampleK2(""), of(1, 1), of(1, 1), of(0, 2), 2, api.OK, api.OK},
		{"K with Moved 0", withLimits(exampleK(""), 1, 1, 0), of(1, 1), of(1, 1), of(0, 0), 2, api.OK, api.OK},
		{"K with the greatest limits", withLimits(exampleK(""), 4, 4, 4), of(1, 3), of(1, 3), of(0, 2), 2, api.OK, api.OK},
		{"K with Gone 0", withLimits(exampleK(""), 0, 1, 1), zero, zero, zero, 2, api.ErrClash, api.OK},
		{"K2 with a fact", exampleK2("0=1"), of(1, 1), of(1, 1), of(2, 2), 4, api.OK, api.OK},
		{"K with a fact", exampleK("0=1"), zero, zero, zero, 4, api.ErrClash, api.OK},
		{"K with a fact of two who are apart", exampleK("1=1"), zero, zero, zero, 0, api.ErrClash, api.ErrClash},
		{"K with Gone 5", withLimits(exampleK(""), 5, 1, 1), zero, zero, zero, 0, api.ErrRange, api.ErrRange},
		{"nobody", withLimits(plain("", "", ""), 0, 0, 0), of(0, 0), of(0, 0), of(0, 0), 0, api.OK, api.OK},
		{"nobody after", plain("ann 0/1, ben 0/2", "", ""), of(2, 2), of(0, 0), of(0, 0), 2, api.OK, api.OK},
		{"nobody before", plain("", "ann 0/1, ben 0/2, cad 0/2", ""), of(0, 0), of(3, 3), of(0, 0), 3, api.OK, api.OK},
		{"a pair that moves is less than one gone and one come", plain("ann 0/1", "ann 0/2", ""), of(0, 1), of(0, 1), of(0, 1), 1, api.OK, api.OK},
	} {
		gone, e1 := kin.Gone(c.k)
		new, e2 := kin.New(c.k)
		moved, e3 := kin.Moved(c.k)
		least, f := kin.Least(c.k)
		if gone != c.gone || new != c.new || moved != c.moved || least != c.least || e1 != c.e || e2 != c.e || e3 != c.e || f != c.f {
			t.Errorf("%s: %v, %v, %v, %d, errors %d %d %d %d", c.what, gone, new, moved, least, e1, e2, e3, f)
		}
	}
}

// TestAllTruths is P8.7: Truths, Gone, New and Moved, and Least, are what all
// pairings say that are gone through one by one.
func TestAllTruths(t *testing.T) {
	m := met{}
	someKin(87, 1500, true, func(s scene, truths []truth) {
		if n, e := kin.Truths(s.Kin); n != len(truths) || e != api.OK {
			t.Fatalf("%v: %d truths, error %d, want %d", s.Kin, n, e, len(truths))
		}
		var gone, new, moved, sums []int
		for _, u := range truths {
			x, y, z := u.counts(s.Kin)
			gone, new, moved = append(gone, x), append(new, y), append(moved, z)
		}
		mustBeSpan(t, s.Kin, kin.Gone, gone)
		mustBeSpan(t, s.Kin, kin.New, new)
		mustBeSpan(t, s.Kin, kin.Moved, moved)
		for _, u := range s.pairings(upTo(len(s.Facts))) {
			x, y, z := u.counts(s.Kin)
			sums = append(sums, x+y+z)
		}
		least, e := kin.Least(s.Kin)
		switch {
		case len(sums) == 0:
			if least != 0 || e != api.ErrClash {
				t.Fatalf("%v: %d at least, error %d", s.Kin, least, e)
			}
			m["no pairing"]++
		case least != slices.Min(sums) || e != api.OK:
			t.Fatalf("%v: %d at least, error %d, want %d", s.Kin, least, e, slices.Min(sums))
		case len(truths) == 0:
			m["no truth"]++
		case slices.Min(moved) < slices.Max(moved) && slices.Min(gone) < slices.Max(gone):
			m["truths that differ"]++
		}
	})
	m.mustAll(t, 50, "no pairing", "no truth", "truths that differ")
}

// mustBeSpan fails unless a function returns the least and the greatest of some
// numbers.
func mustBeSpan(t *testing.T, k api.Kin, call func(api.Kin) (api.Span, api.Errno), numbers []int) {
	t.Helper()
	got, e := call(k)
	want, due := api.Span{}, api.ErrClash
	if len(numbers) > 0 {
		want, due = api.Span{Low: slices.Min(numbers), High: slices.Max(numbers)}, api.OK
	}
	if got != want || e != due {
		t.Fatalf("%v: %v, error %d, want %v, error %d", k, got, e, want, due)
	}
}

// TestAllPairs is P8.2 and P8.7: Pairs, Must, Verdict, Fate, Origin and Stays
// are what all pairings say that are gone through one by one.
func TestAllPairs(t *testing.T) {
	m := met{}
	names := []string{"", "sure", "out", "open"}
	someKin(82, 1000, false, func(s scene, truths []truth) {
		var all, must [][]int
		for a := range s.Before {
			for b := range s.After {
				want := verdictOf(truths, func(u truth) bool { return u.to[a] == b })
				if v, e := kin.Verdict(s.Kin, a, b); v != want || e != api.OK {
					t.Fatalf("%v, %d %d: %d, error %d, want %d", s.Kin, a, b, v, e, want)
				}
				if want != api.Out {
					all = append(all, []int{a, b})
				}
				if want == api.Sure {
					must = append(must, []int{a, b})
				}
				m[names[want]]++
			}
			want := verdictOf(truths, func(u truth) bool { return u.stays[a] })
			if v, e := kin.Stays(s.Kin, a); v != want || e != api.OK {
				t.Fatalf("%v, %d: stays %d, error %d, want %d", s.Kin, a, v, e, want)
			}
			m["stays "+names[want]]++
		}
		if got, e := kin.Pairs(s.Kin); !samePairs(got, all) || e != api.OK {
			t.Fatalf("%v: pairs are %v, error %d, want %v", s.Kin, got, e, all)
		}
		if got, e := kin.Must(s.Kin); !samePairs(got, must) || e != api.OK {
			t.Fatalf("%v: %v must be, error %d, want %v", s.Kin, got, e, must)
		}
		mustHaveFates(t, s.Kin, truths)
	})
	m.mustAll(t, 100, "sure", "out", "open", "stays sure", "stays out", "stays open")
}

// mustHaveFates fails unless Fate and Origin are what truths say.
func mustHaveFates(t *testing.T, k api.Kin, truths []truth) {
	t.Helper()
	different := func(find func(truth) int) []int {
		var l []int
		for _, u := range truths {
			l = append(l, find(u))
		}
		slices.Sort(l)
		return slices.Compact(l)
	}
	for a := range k.Before {
		want := different(func(u truth) int { return u.to[a] })
		if got, e := kin.Fate(k, a); !slices.Equal(got, want) || e != api.OK {
			t.Fatalf("%v: the fate of %d is %v, error %d, want %v", k, a, got, e, want)
		}
	}
	for b := range k.After {
		want := different(func(u truth) int { return slices.Index(u.to, b) })
		if got, e := kin.Origin(k, b); !slices.Equal(got, want) || e != api.OK {
			t.Fatalf("%v: the origin of %d is %v, error %d, want %v", k, b, got, e, want)
		}
	}
}

// TestAgree is P8.8: Fate, Origin, Pairs, Must and Verdict say the same.
func TestAgree(t *testing.T) {
	m := met{}
	someKin(88, 300, false, func(s scene, _ []truth) {
		all, _ := kin.Pairs(s.Kin)
		must, _ := kin.Must(s.Kin)
		has := func(l [][]int, a, b int) bool {
			return slices.ContainsFunc(l, func(p []int) bool { return slices.Equal(p, []int{a, b}) })
		}
		for a := range s.Before {
			fate, _ := kin.Fate(s.Kin, a)
			for b := range s.After {
				origin, _ := kin.Origin(s.Kin, b)
				v, _ := kin.Verdict(s.Kin, a, b)
				is := v != api.Out
				if slices.Contains(fate, b) != is || slices.Contains(origin, a) != is || has(all, a, b) != is {
					t.Fatalf("%v, %d %d: %d, but %v, %v and %v", s.Kin, a, b, v, fate, origin, all)
				}
				sure := v == api.Sure
				if has(must, a, b) != sure || sure != (slices.Equal(fate, []int{b}) && slices.Equal(origin, []int{a})) {
					t.Fatalf("%v, %d %d: %d, but %v, %v and %v", s.Kin, a, b, v, fate, origin, must)
				}
				m[[]string{"", "sure", "out", "open"}[v]]++
			}
		}
	})
	m.mustAll(t, 50, "sure", "out", "open")
}

// TestCounted is P8.9: there are as many old ones more than new ones as there
// are gone more than come; at most as many pairs have moved as there are.
func TestCounted(t *testing.T) {
	m := met{}
	someKin(89, 500, false, func(s scene, _ []truth) {
		gone, _ := kin.Gone(s.Kin)
		new, _ := kin.New(s.Kin)
		moved, _ := kin.Moved(s.Kin)
		more := len(s.Before) - len(s.After)
		if gone.Low-new.Low != more || gone.High-new.High != more {
			t.Fatalf("%v: %v gone, %v come", s.Kin, gone, new)
		}
		most := len(s.Before) - gone.Low
		if moved.Low < 0 || moved.High > most {
			t.Fatalf("%v: %v moved, but there are %d pairs", s.Kin, moved, most)
		}
		if most > 0 && moved.High == most {
			m["all have moved"]++
		}
		if moved.High < most {
			m["some have not moved"]++
		}
	})
	m.mustAll(t, 50, "all have moved", "some have not moved")
}

// TestLimits is P8.10: with greater limits no truth is lost; with limits that
// come to less than Least together there is none; with the greatest limits
// there is one, if there is a pairing.
func TestLimits(t *testing.T) {
	m := met{}
	someKin(810, 400, true, func(s scene, truths []truth) {
		k := s.Kin
		n := len(truths)
		for _, l := range [][3]int{{1, 0, 0}, {0, 1, 0}, {0, 0, 1}, {1, 1, 1}} {
			greater := withLimits(k, min(k.Gone+l[0], api.MaxKin), min(k.New+l[1], api.MaxKin), min(k.Moved+l[2], api.MaxKin))
			more, e := kin.Truths(greater)
			if more < n || e != api.OK {
				t.Fatalf("%v: %d truths, error %d, but %d with lesser limits", greater, more, e, n)
			}
			if more > n {
				m["more truths"]++
			}
		}
		least, e := kin.Least(k)
		if e == api.OK && k.Gone+k.New+k.Moved < least {
			if n > 0 {
				t.Fatalf("%v: %d at least, but %d truths", k, least, n)
			}
			m["too small limits"]++
		}
		most, f := kin.Truths(withLimits(k, api.MaxKin, api.MaxKin, api.MaxKin))
		if (most > 0) != (e == api.OK) || f != api.OK {
			t.Fatalf("%v: %d truths with the greatest limits, error %d", k, most, e)
		}
	})
	m.mustAll(t, 30, "more truths", "too small limits")
}
