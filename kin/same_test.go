package kin_test

import (
	"slices"
	"testing"

	"wayzgoose/api"
	"wayzgoose/kin"
	"wayzgoose/name"
	"wayzgoose/part"
	"wayzgoose/street"
)

// isSpokenOf reports whether a fact speaks of an old one.
func isSpokenOf(k api.Kin, a int) bool {
	return slices.ContainsFunc(k.Facts, func(x api.Tie) bool { return x.A == a })
}

// TestAlike is P8.15: two old ones that are the same in all, and of whom no fact
// speaks, have the same fate.
func TestAlike(t *testing.T) {
	m := met{}
	d := die{state: 815}
	for range 4000 {
		k := d.kin()
		if len(k.Before) < 2 || isSpokenOf(k, 0) || isSpokenOf(k, 1) {
			continue
		}
		k.Before[1] = k.Before[0]
		one, e := kin.Fate(k, 0)
		other, f := kin.Fate(k, 1)
		if !slices.Equal(one, other) || e != f {
			t.Fatalf("%v: %v, error %d, and %v, error %d", k, one, e, other, f)
		}
		if len(one) > 1 {
			m["several fates"]++
		}
		if len(one) == 1 {
			m["one fate"]++
		}
	}
	m.mustAll(t, 100, "one fate", "several fates")
}

// mustHaveVerdicts fails unless two kin have as many truths, and the verdicts of
// one are those of the other on pairs that a function tells.
func mustHaveVerdicts(t *testing.T, k, m api.Kin, other func(a, b int) (int, int)) {
	t.Helper()
	n, e := kin.Truths(k)
	i, f := kin.Truths(m)
	if n != i || e != api.OK || f != api.OK {
		t.Fatalf("%v: %d truths, error %d; %v: %d, error %d", k, n, e, m, i, f)
	}
	for a := range k.Before {
		for b := range k.After {
			v, e := kin.Verdict(k, a, b)
			c, d := other(a, b)
			w, f := kin.Verdict(m, c, d)
			if v != w || e != f {
				t.Fatalf("%v, %d %d: %d, error %d; %v, %d %d: %d, error %d", k, a, b, v, e, m, c, d, w, f)
			}
		}
	}
}

// TestThereAndBack is P8.16: if the story has no steps, the kin with both
// editions exchanged have as many truths, and the same verdicts.
func TestThereAndBack(t *testing.T) {
	m := met{}
	d := die{state: 816}
	for range 3000 {
		k := d.kin()
		k.Story.Steps, k.Story.Facts = nil, nil
		back := clone(k, 0)
		back.Before, back.After = k.After, k.Before
		back.Gone, back.New = k.New, k.Gone
		for i, x := range k.Facts {
			back.Facts[i] = api.Tie{A: x.B, B: x.A, Same: x.Same}
		}
		if kin.Check(back) != api.OK { // a house of a new one is none of First
			continue
		}
		mustHaveVerdicts(t, k, back, func(a, b int) (int, int) { return b, a })
		if n, _ := kin.Truths(k); n > 1 {
			m["several truths"]++
		}
	}
	m.mustAll(t, 200, "several truths")
}

// TestRuleMore is P8.17: with a rule more no truth is lost, and nothing more
// keeps two people apart.
func TestRuleMore(t *testing.T) {
	m := met{}
	someKin(817, 1000, true, func(s scene, truths []truth) {
		if len(s.Rules) == api.MaxRules {
			return
		}
		for _, r := range append(someRules(), rules("ne=n an=be s=")...) {
			more := s.Kin
			more.Rules = append(slices.Clone(s.Rules), r)
			n, e := kin.Truths(more)
			if n < len(truths) || e != api.OK {
				t.Fatalf("%v: %d truths, but %d with the rule %v, error %d", s.Kin, len(truths), n, r, e)
			}
			if n > len(truths) {
				m["more truths"]++
			}
			for a := range s.Before {
				for b := range s.After {
					was, _ := kin.Apart(s.Kin, a, b)
					is, e := kin.Apart(more, a, b)
					isMore := func(kind int) bool { return !slices.Contains(was, kind) }
					if slices.ContainsFunc(is, isMore) || e != api.OK {
						t.Fatalf("%v, %d %d: %v, but %v with the rule %v, error %d", s.Kin, a, b, was, is, r, e)
					}
				}
			}
		}
	})
	m.mustAll(t, 50, "more truths")
}

// TestRenumbered is P8.19: if the new ones stand in another order, there are as
// many truths, and the same verdicts.
func TestRenumbered(t *testing.T) {
	d := die{state: 819}
	m := met{}
	for range 1000 {
		k := d.kin()
		other := clone(k, 0)
		order := d.shuffled(len(k.After)) // where each new one stands
		for b, p := range k.After {
			other.After[order[b]] = p
		}
		for i, x := range k.Facts {
			other.Facts[i].B = order[x.B]
		}
		mustHaveVerdicts(t, k, other, func(a, b int) (int, int) { return a, order[b] })
		if n, _ := kin.Truths(k); n > 1 && !slices.IsSorted(order) {
			m["several truths"]++
		}
	}
	m.mustAll(t, 100, "several truths")
}

// TestJoined is T8: people who stay where they are, with their names and trades,
// can be joined with themselves, whatever became of the plates; they surely are
// if no two of them can have the same name.
func TestJoined(t *testing.T) {
	d := die{state: 8}
	m := met{}
	for range 1500 {
		k := d.kin()
		past := pick(&d, pasts(k.Story)...)
		k.After, k.Facts = nil, nil
		k.Before = slices.DeleteFunc(k.Before, func(p api.Person) bool {
			to, _ := follow(k.Story, past, houseOf(p))
			i := slices.IndexFunc(to, func(h api.Place) bool { return h.Plate.Letter == 0 })
			if i == -1 {
				return true
			}
			p.Street, p.Number = to[i].Street, to[i].Plate.Number
			k.After = append(k.After, p)
			return false
		})
		k.Gone, k.New, k.Moved = 0, 0, 0
		if len(k.Before) == 0 {
			continue
		}
		sure := true
		for a, p := range k.Before {
			for _, q := range k.Before[:a] {
				v, _ := name.Verdict(k.Rules, p.Name, q.Name)
				sure = sure && v == api.Out
			}
		}
		for a := range k.Before {
			v, e := kin.Verdict(k, a, a)
			if e != api.OK || v == api.Out || sure && v != api.Sure {
				t.Fatalf("%v, %v: %d is %d, error %d", k, past, a, v, e)
			}
		}
		if sure && len(k.Before) > 1 {
			m["sure"]++
		}
		if !sure {
			m["two of a name"]++
		}
		if len(pasts(k.Story)) > 1 {
			m["several truths of the story"]++
		}
	}
	m.mustAll(t, 100, "sure", "two of a name", "several truths of the story")
}

// TestTwins is T9: two people of one edition may be the same just if they can be
// joined as people of two editions between which nobody has gone, come or moved.
func TestTwins(t *testing.T) {
	d := die{state: 9}
	m := met{}
	for range 2000 {
		k := d.kin()
		k.Story = story("[1 2][2]")
		p, q := d.old(k), d.old(k)
		if d.throw(3) > 0 {
			q.Street, q.Number = p.Street, p.Number
		}
		k.Before, k.After, k.Facts = []api.Person{p}, []api.Person{q}, nil
		n, e := kin.Truths(withLimits(k, 0, 0, 0))
		mustBe(t, "Truths", e, api.OK)
		twins, e := part.Twice(api.Volume{Streets: 2, Width: 13, Rows: 3, Trades: k.Trades, Rules: k.Rules, People: []api.Person{p, q}})
		mustBe(t, "Twice", e, api.OK)
		if n != len(twins) {
			t.Fatalf("%v: %d truths, but %v", k, n, twins)
		}
		m[[]string{"not the same", "the same"}[n]]++
	}
	m.mustAll(t, 100, "not the same", "the same")
}

// TestTraded is T10: trades keep two people apart just if they differ and no
// class has both people under it.
func TestTraded(t *testing.T) {
	d := die{state: 10}
	m := met{}
	for range 2000 {
		k := d.kin()
		k.Story = story("[1 2][2]")
		p, q := d.old(k), d.old(k)
		if p.Head == -1 || q.Head == -1 {
			continue
		}
		k.Before, k.After, k.Facts = []api.Person{p}, []api.Person{q}, nil
		v := api.Volume{Streets: 2, Width: 13, Rows: 3, Trades: k.Trades, Rules: k.Rules, People: []api.Person{p, q}}
		both := false
		for class := range k.Trades.Classes {
			l, e := part.Under(v, class)
			mustBe(t, "Under", e, api.OK)
			both = both || len(l) == 2
		}
		l, e := kin.Apart(k, 0, 0)
		if slices.Contains(l, api.ByTrade) == (p.Head == q.Head || both) || e != api.OK {
			t.Fatalf("%v: %v, error %d", k, l, e)
		}
		if both {
			m["a class of both"]++
		} else {
			m["no class of both"]++
		}
	}
	m.mustAll(t, 100, "a class of both", "no class of both")
}

// TestFollowed is T11: somebody who is the same before and after stays just as
// surely as their house becomes the other one.
func TestFollowed(t *testing.T) {
	d := die{state: 11}
	m := met{}
	for range 1500 {
		k := api.Kin{Story: d.story(), Moved: 1, Facts: ties("0=0")}
		p := d.old(k)
		k.Before = []api.Person{p}
		q := d.new(k)
		q.Name, q.Head = p.Name, p.Head
		k.After = []api.Person{q}
		want, e := street.Verdict(k.Story, houseOf(p), houseOf(q))
		mustBe(t, "the verdict on the house", e, api.OK)
		if v, e := kin.Stays(k, 0); v != want || e != api.OK {
			t.Fatalf("%v: %d, error %d, want %d", k, v, e, want)
		}
		m[[]string{"", "sure", "out", "open"}[want]]++
	}
	m.mustAll(t, 100, "sure", "out", "open")
}
