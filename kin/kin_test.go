package kin_test

import (
	"slices"
	"testing"

	"wayzgoose/api"
	"wayzgoose/kin"
)

// spoiler makes valid kin that share nothing into ones that have an error.
type spoiler struct {
	what string
	e    api.Errno
	do   func(k *api.Kin)
}

// spoilers returns errors of K in the order in which they are named; each one
// leaves the errors of those behind it as they are.
func spoilers() []spoiler {
	var l []spoiler
	add := func(what string, e api.Errno, do func(k *api.Kin)) { l = append(l, spoiler{what, e, do}) }
	add("a plan in no order", api.ErrOrder, func(k *api.Kin) { slices.Reverse(k.Story.First.Streets[0]) })
	add("a step without ways", api.ErrShort, func(k *api.Kin) { k.Story.Steps = slices.Insert(k.Story.Steps, 0, api.Step{}) })
	add("a kind that there is not", api.ErrKind, func(k *api.Kin) { k.Story.Steps = append(k.Story.Steps, step(api.Change{Kind: 8})) })
	add("no truth of the story", api.ErrNone, func(k *api.Kin) { k.Story.Steps = append(k.Story.Steps, step(join(0, 0))) })
	add("six truths of the story", api.ErrFull, func(k *api.Kin) {
		k.Story.Steps = append(k.Story.Steps, step(turn(0), turn(0), turn(0)))
	})
	add("a class under itself", api.ErrOrder, func(k *api.Kin) { k.Trades.Classes[1].Under = 1 })
	add("a pointer to itself", api.ErrClash, func(k *api.Kin) { k.Trades.Heads[1].See = 1 })
	add("a rule for itself", api.ErrForm, func(k *api.Kin) { k.Rules = rules("a=a") })
	for _, x := range []struct {
		who string
		of  func(k *api.Kin) *[]api.Person
	}{
		{"an old one", func(k *api.Kin) *[]api.Person { return &k.Before }},
		{"a new one", func(k *api.Kin) *[]api.Person { return &k.After }},
	} {
		first := func(k *api.Kin) *api.Person { return &(*x.of(k))[0] }
		add("five: "+x.who, api.ErrFull, func(k *api.Kin) { *x.of(k) = append(*x.of(k), make([]api.Person, 2)...) })
		add("no name: "+x.who, api.ErrShort, func(k *api.Kin) { first(k).Name = "" })
		add("no heading: "+x.who, api.ErrNoSuch, func(k *api.Kin) { first(k).Head = 6 })
		add("a pointer: "+x.who, api.ErrKind, func(k *api.Kin) { first(k).Head = 1 })
		add("no street: "+x.who, api.ErrNoSuch, func(k *api.Kin) { first(k).Street = 2 })
		if x.who == "a new one" {
			add("no number: "+x.who, api.ErrRange, func(k *api.Kin) { first(k).Number = 41 })
		}
		add("bold: "+x.who, api.ErrClash, func(k *api.Kin) { first(k).Bold = true })
		add("a long name behind: "+x.who, api.ErrLong, func(k *api.Kin) { (*x.of(k))[1].Name = "chadwik" })
	}
	add("too many have gone", api.ErrRange, func(k *api.Kin) { k.Gone = 5 })
	add("five facts", api.ErrFull, func(k *api.Kin) { k.Facts = ties("0=0 0=1 0=2 1=0 1=1") })
	add("a fact of nobody", api.ErrNoSuch, func(k *api.Kin) { k.Facts[0].A = 3 })
	add("a fact twice", api.ErrRepeated, func(k *api.Kin) { k.Facts[1] = tie("0!0") })
	add("a fact of nobody behind", api.ErrNoSuch, func(k *api.Kin) { k.Facts[2].B = -1 })
	return l
}

// spoilable returns K with facts, in memory of its own.
func spoilable() api.Kin { return exampleK("0=0 1!1 2!2") }

// TestCheck is P8.1: the errors of kin.
func TestCheck(t *testing.T) {
	mustBe(t, "K", kin.Check(exampleK("")), api.OK)
	mustBe(t, "K with facts", kin.Check(spoilable()), api.OK)
	mustBe(t, "K with Moved 5", kin.Check(withLimits(exampleK(""), 1, 1, 5)), api.ErrRange)
	mustBe(t, "K with two facts of 0 and 0", kin.Check(exampleK("0=0 0!0")), api.ErrRepeated)
	k := exampleK("")
	k.Before[1].Number = 3
	mustBe(t, "K with anna at 0/3", kin.Check(k), api.ErrNoSuch)
	for _, s := range spoilers() {
		k := spoilable()
		s.do(&k)
		mustBe(t, s.what, kin.Check(k), s.e)
	}
}

// TestCheckOrder is R1: of two errors the one that is named first is returned.
func TestCheckOrder(t *testing.T) {
	all := spoilers()
	for i, first := range all {
		for _, second := range all[i+1:] {
			k := spoilable()
			second.do(&k)
			first.do(&k)
			mustBe(t, first.what+", "+second.what, kin.Check(k), first.e)
		}
	}
}

// TestCheckLimits is P8.1: what is just allowed, and what just is not.
func TestCheckLimits(t *testing.T) {
	four := "ann 0/1, ben 0/1, cad 0/2, ann 0/2"
	big := plain(four, four, "a=b c=d e=f g=")
	big.Facts = ties("0=0 1!1 0!1 3!3")
	big.Story.Steps = []api.Step{step(turn(0), swap(0)), step(turn(0), swap(0))}
	lettered := plain("ann 0/1", "", "")
	lettered.Story = story("[1 2a]")
	for _, c := range []struct {
		what string
		do   func(k *api.Kin)
		want api.Errno
	}{
		{"all that there can be", func(k *api.Kin) {}, api.OK},
		{"nobody", func(k *api.Kin) { k.Before, k.After, k.Facts = nil, nil, nil }, api.OK},
		{"nobody before", func(k *api.Kin) { k.Before, k.Facts = nil, nil }, api.OK},
		{"nobody after", func(k *api.Kin) { k.After, k.Facts = nil, nil }, api.OK},
		{"no limits", func(k *api.Kin) { k.Gone, k.New, k.Moved = 0, 0, 0 }, api.OK},
		{"five truths", func(k *api.Kin) {
			k.Story.Steps = []api.Step{step(turn(0), swap(0)), step(turn(0), swap(0), fell(0, 1))}
		}, api.ErrFull},
		{"eight choices, four truths", func(k *api.Kin) { k.Story.Steps = append(k.Story.Steps, step(turn(0), fell(0, 9))) }, api.OK},
		{"no street", func(k *api.Kin) { k.Story.First = api.Plan{} }, api.ErrShort},
		{"four steps", func(k *api.Kin) { k.Story.Steps = make([]api.Step, 4) }, api.ErrFull},
		{"five rules", func(k *api.Kin) { k.Rules = append(k.Rules, k.Rules[0]) }, api.ErrFull},
		{"a rule from nothing", func(k *api.Kin) { k.Rules = rules("=a") }, api.ErrForm},
		{"five old ones", func(k *api.Kin) { k.Before = append(k.Before, k.Before[0]) }, api.ErrFull},
		{"five new ones", func(k *api.Kin) { k.After = append(k.After, k.After[0]) }, api.ErrFull},
		{"two alphabets in a name", func(k *api.Kin) { k.After[3].Name = "CaD" }, api.ErrForm},
		{"the heading -2", func(k *api.Kin) { k.Before[3].Head = -2 }, api.ErrNoSuch},
		{"the heading 0, without trades", func(k *api.Kin) { k.Before[3].Head = 0 }, api.ErrNoSuch},
		{"a trade", func(k *api.Kin) { k.Trades, k.Before[3].Head = trades(exampleT), 4 }, api.OK},
		{"a pointer", func(k *api.Kin) { k.Trades, k.Before[3].Head = trades(exampleT), 5 }, api.ErrKind},
		{"a list of references", func(k *api.Kin) {
			k.Trades, k.After[3].Head = trades("class a\nb also c\nc is a\nfinis\n"), 0
		}, api.ErrKind},
		{"an old one at 0/5", func(k *api.Kin) { k.Before[3].Number = 5 }, api.ErrNoSuch},
		{"an old one at 0/0", func(k *api.Kin) { k.Before[3].Number = 0 }, api.ErrNoSuch},
		{"an old one at 0/41", func(k *api.Kin) { k.Before[3].Number = 41 }, api.ErrNoSuch},
		{"an old one in the street -1", func(k *api.Kin) { k.Before[3].Street = -1 }, api.ErrNoSuch},
		{"an old one in the street 1", func(k *api.Kin) { k.Before[3].Street = 1 }, api.ErrNoSuch},
		{"a new one at 0/40", func(k *api.Kin) { k.After[3].Number = 40 }, api.OK},
		{"a new one at 0/1", func(k *api.Kin) { k.After[3].Number = 1 }, api.OK},
		{"a new one at 0/0", func(k *api.Kin) { k.After[3].Number = 0 }, api.ErrRange},
		{"a new one in the street -1", func(k *api.Kin) { k.After[3].Street = -1 }, api.ErrNoSuch},
		{"a bold new one at 0/0", func(k *api.Kin) { k.After[3].Number, k.After[3].Bold = 0, true }, api.ErrRange},
		{"a bold new one", func(k *api.Kin) { k.After[3].Bold = true }, api.ErrClash},
		{"a bold old one at 0/5", func(k *api.Kin) { k.Before[3].Number, k.Before[3].Bold = 5, true }, api.ErrNoSuch},
		{"fewer than nobody has gone", func(k *api.Kin) { k.Gone = -1 }, api.ErrRange},
		{"fewer than nobody has come", func(k *api.Kin) { k.New = -1 }, api.ErrRange},
		{"five have come", func(k *api.Kin) { k.New = 5 }, api.ErrRange},
		{"fewer than nobody has moved", func(k *api.Kin) { k.Moved = -1 }, api.ErrRange},
		{"five have moved", func(k *api.Kin) { k.Moved = 5 }, api.ErrRange},
		{"five facts", func(k *api.Kin) { k.Facts = append(k.Facts, tie("2!2")) }, api.ErrFull},
		{"a fact of the old one -1", func(k *api.Kin) { k.Facts[3].A = -1 }, api.ErrNoSuch},
		{"a fact of the old one 4", func(k *api.Kin) { k.Facts[3].A = 4 }, api.ErrNoSuch},
		{"a fact of the new one 4", func(k *api.Kin) { k.Facts[3].B = 4 }, api.ErrNoSuch},
		{"a fact twice", func(k *api.Kin) { k.Facts[3] = k.Facts[0] }, api.ErrRepeated},
		{"a fact and its contrary", func(k *api.Kin) { k.Facts[3] = tie("0!0") }, api.ErrRepeated},
		{"a house with a letter", func(k *api.Kin) { *k = lettered }, api.OK},
		{"an old one at a house with a letter", func(k *api.Kin) { *k = clone(lettered, 0); k.Before[0].Number = 2 }, api.ErrNoSuch},
	} {
		k := clone(big, 0)
		c.do(&k)
		mustBe(t, c.what, kin.Check(k), c.want)
	}
}

// TestApart is about P8.1: all that keeps two people apart, and the errors.
func TestApart(t *testing.T) {
	several := exampleK("1!2")
	several.After[2].Head = 0
	for _, c := range []struct {
		k    api.Kin
		a, b int
		want []int
		e    api.Errno
	}{
		{exampleK(""), 0, 0, nil, api.OK},
		{exampleK(""), 0, 1, nil, api.OK},
		{exampleK(""), 0, 2, []int{api.ByName, api.ByTrade}, api.OK},
		{exampleK(""), 1, 0, []int{api.ByName, api.ByTrade}, api.OK},
		{exampleK(""), 1, 1, []int{api.ByName}, api.OK},
		{exampleK(""), 1, 2, []int{api.ByName}, api.OK},
		{exampleK(""), 2, 0, nil, api.OK},
		{exampleK(""), 2, 1, nil, api.OK},
		{exampleK(""), 2, 2, []int{api.ByName, api.ByTrade}, api.OK},
		{exampleK("0!0"), 0, 0, []int{api.ByFact}, api.OK},
		{exampleK("0!0"), 0, 1, nil, api.OK},
		{exampleK("0!0"), 2, 0, nil, api.OK},
		{exampleK("0=0"), 0, 0, nil, api.OK},
		{exampleK("0=0"), 0, 1, nil, api.OK},
		{several, 1, 2, []int{api.ByName, api.ByTrade, api.ByFact}, api.OK},
		{withLimits(exampleK("0=2"), 0, 0, 0), 0, 0, nil, api.OK},
		{exampleK(""), 3, 0, nil, api.ErrNoSuch},
		{exampleK(""), -1, 0, nil, api.ErrNoSuch},
		{exampleK(""), 0, 3, nil, api.ErrNoSuch},
		{exampleK(""), 0, -1, nil, api.ErrNoSuch},
		{exampleK("0=3"), 0, 3, nil, api.ErrNoSuch},
		{withLimits(exampleK(""), 0, 0, 5), 0, 3, nil, api.ErrRange},
	} {
		l, e := kin.Apart(c.k, c.a, c.b)
		if !slices.Equal(l, c.want) || e != c.e {
			t.Errorf("%v, %d %d: %v, error %d, want %v, error %d", c.k, c.a, c.b, l, e, c.want, c.e)
		}
	}
}

// TestAllApart is P8.1 for people thrown by a die.
func TestAllApart(t *testing.T) {
	m := met{}
	d := die{state: 81}
	for range 300 {
		k := d.kin()
		for a := range k.Before {
			for b := range k.After {
				want := apart(k, a, b)
				if got, e := kin.Apart(k, a, b); !slices.Equal(got, want) || e != api.OK {
					t.Fatalf("%v, %d %d: %v, error %d, want %v", k, a, b, got, e, want)
				}
				for _, kind := range want {
					m[[]string{"", "by name", "by trade", "by fact"}[kind]]++
				}
				if len(want) == 0 {
					m["nothing"]++
				}
			}
		}
	}
	m.mustAll(t, 30, "by name", "by trade", "by fact", "nothing")
}
