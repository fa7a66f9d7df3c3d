package lodge_test

import (
	"slices"
	"testing"

	"wayzgoose/api"
	"wayzgoose/lodge"
)

// TestWhom is about P5.4: of whom an entry can be told, and the errors of Whom
// in their order.
func TestWhom(t *testing.T) {
	smiths := withRules(lodging("1 2", "smith smyth", 2, 1, ""), "y=i")
	for _, c := range []struct {
		l     api.Lodging
		entry int
		want  []int
		e     api.Errno
	}{
		{exampleL(""), 1, []int{1}, api.OK},
		{exampleL(""), 0, []int{0}, api.OK},
		{exampleL(""), 2, nil, api.ErrNoSuch},
		{exampleL(""), -1, nil, api.ErrNoSuch},
		{exampleL("cyd 0/1 0"), 2, nil, api.ErrClash},
		{exampleL("cyd 0/1 0"), 3, nil, api.ErrNoSuch},
		{withEntries(smiths, entry("smith 0/1 0")), 0, []int{0, 1}, api.OK},
		{withEntries(smiths, entry("smyth 0/1 0 1")), 0, []int{0, 1}, api.OK},
		{withRules(withEntries(smiths, entry("smyth 0/1 0")), ""), 0, []int{1}, api.OK},
		{withEntries(smiths, entry("smith 0/1 0"), entry("smith 0/2 0")), 1, []int{0, 1}, api.OK},
		// The name of ana fits, but she is elsewhere on these days.
		{withRules(lodging("1 2", "anna ana", 1, 1, "anna 0/1 0, aaana 0/2 0"), "nn=n aa=a"), 0, []int{0}, api.OK},
		{withRules(lodging("1 2", "anna ana", 2, 1, "anna 0/1 0 1, aaana 0/2 0"), "nn=n aa=a"), 0, []int{0, 1}, api.OK},
		{withRules(lodging("1 2", "anna ana", 2, 1, "anna 0/1 0 1, aaana 0/2 0, aaana 0/2 1"), "nn=n aa=a"), 0, []int{0}, api.OK},
		// Her home is not that of the entry in any truth.
		{withSteps(withRules(lodging("1 2|3", "anna ana", 1, 1, "anna late 0/1 0, aaana 1/3 0"), "nn=n aa=a"), "turn 0, swap 0", ""), 0, []int{0}, api.OK},
		// The name fits nobody else.
		{withRules(withEntries(smiths, entry("smiith 0/1 0")), "ii=i y=ii"), 0, []int{0, 1}, api.OK},
		{withRules(withEntries(smiths, entry("smiith 0/1 0")), "ii=i"), 0, []int{0}, api.OK},
		{lodging("1", "chad CAT", 1, 1, "CAD 0/1 0"), 0, []int{0}, api.OK},
		{withEntries(withRules(lodging("1 2", "smith smyth", 3, 3, ""), "y=i h="), entry("smith 0/1 0"), entry("smit 0/2 0 2")), 1, []int{0, 1}, api.OK},
		{withRules(lodging("1 2", "smith smyth smit", 1, 1, "smith 0/2 0"), "y=i h="), 0, []int{0, 1, 2}, api.OK},
		{withRules(lodging("1 2", "smith smyth smit", 1, 1, "smith 0/2 0, smyth 0/1 0, smit 0/1 0"), "y=i h="), 0, []int{0, 1, 2}, api.OK},
		{withRules(lodging("1 2", "smith smyth smit", 1, 1, "smith 0/2 0, smyth 0/1 0"), "y=i"), 0, []int{0, 1}, api.OK},
		{withRules(lodging("1", "smith ben", 2, 1, "smyth 0/1 1, ben 0/1 0"), "y=i"), 0, []int{0}, api.OK},
		{withRules(lodging("1 2", "smith smyth ben", 1, 1, "smith 0/1 0, ben 0/2 0"), "y=i"), 0, []int{0, 1}, api.OK},
	} {
		l, e := lodge.Whom(c.l, c.entry)
		if !slices.Equal(l, c.want) || e != c.e {
			t.Errorf("%v, %d: %v, error %d, want %v, error %d", c.l, c.entry, l, e, c.want, c.e)
		}
	}
}

// TestWrong is about P5.4: the fewest entries that must be false, and the fewest
// that can't be true together.
func TestWrong(t *testing.T) {
	for _, c := range []struct {
		what         string
		l            api.Lodging
		wrong, clash []int
	}{
		{"L", exampleL(""), nil, nil},
		{"ben at 0/1 on the day 0 too", exampleL("ben 0/1 0"), []int{0}, []int{0, 2}},
		{"cyd at 0/1 on the day 0 too", exampleL("cyd 0/1 0"), []int{2}, []int{2}},
		{"both", exampleL("ben 0/1 0, cyd 0/1 0"), []int{0, 3}, []int{3}},
		{"no entry", lodging("1", "anna", 1, 1, ""), nil, nil},
		{"nobody", lodging("1", "anna", 1, 1, "cyd 0/1 0, anna 0/1 0, dora 0/1 0"), []int{0, 2}, []int{0}},
		{"all of nobody", lodging("1", "anna", 1, 1, "bo 0/1 0, cyd 0/1 0, dora 0/1 0, eve 0/1 0, flo 0/1 0"), []int{0, 1, 2, 3, 4}, []int{0}},
		{"two homes on a day", lodging("1 2", "anna", 1, 1, "anna 0/1 0, anna 0/2 0"), []int{0}, []int{0, 1}},
		{"two against one", lodging("1 2", "anna", 1, 1, "anna 0/2 0, anna 0/1 0, anna 0/2 0"), []int{1}, []int{0, 1}},
		{"two against two", lodging("1 2", "anna", 1, 1, "anna 0/2 0, anna 0/1 0, anna 0/1 0, anna 0/2 0"), []int{0, 3}, []int{0, 1}},
		{"two pairs", lodging("1 2", "anna", 2, 1, "anna 0/1 0, anna 0/1 1, anna 0/2 1, anna 0/2 0"), []int{0, 1}, []int{0, 3}},
		{"a short stay", lodging("1 2", "anna", 3, 2, "anna 0/1 0, anna 0/2 1, anna 0/1 2"), []int{0}, []int{0, 1, 2}},
		{"a short stay that is told twice", lodging("1 2", "anna", 3, 2, "anna 0/1 0, anna 0/2 1, anna 0/1 2, anna 0/1 0, anna 0/1 2"), []int{1}, []int{0, 1, 2}},
		{"a longer stay", lodging("1 2", "anna", 4, 3, "anna 0/1 0, anna 0/2 1, anna 0/2 2, anna 0/1 3"), []int{0}, []int{0, 1, 3}},
		{"three in two homes", lodging("1 2", "anna ben cyd", 1, 1, "anna 0/1 0, ben 0/2 0, cyd 0/1 0"), []int{0}, []int{0, 2}},
		{"three of one home", lodging("1", "anna ben cyd", 1, 1, "anna 0/1 0, ben 0/1 0, cyd 0/1 0"), []int{0, 1}, []int{0, 1}},
		{"more than there are days", lodging("1", "anna ben cyd", 2, 1, "anna 0/1 0 1, ben 0/1 0 1, cyd 0/1 0 1"), []int{0}, []int{0, 1, 2}},
		{"a late house that there never is", withSteps(lodging("1 2|", "anna", 1, 1, "anna late 1/9 0, anna late 0/3 0, anna 0/1 0"), "swap 0", ""), []int{0, 1}, []int{0}},
		{"houses of different truths", withSteps(lodging("1 3", "anna", 2, 1, "anna late 0/1 0, anna late 0/2 1, anna late 0/1 1"), "turn 0, swap 0", ""), []int{1}, []int{0, 1}},
		{"a house pulled down", withSteps(lodging("1 2", "anna", 2, 1, "anna 0/1 0, anna late 0/1 1"), "fell 0/1", ""), []int{1}, []int{1}},
	} {
		wrong, e := lodge.Wrong(c.l)
		if !slices.Equal(wrong, c.wrong) || e != api.OK {
			t.Errorf("%s: wrong are %v, error %d, want %v", c.what, wrong, e, c.wrong)
		}
		due := api.OK
		if c.clash == nil {
			due = api.ErrNone
		}
		clash, e := lodge.Clash(c.l)
		if !slices.Equal(clash, c.clash) || e != due {
			t.Errorf("%s: the clash is %v, error %d, want %v", c.what, clash, e, c.clash)
		}
	}
}

// TestAdd is about P5.5: a lodging with one entry more, and the errors of Add in
// their order.
func TestAdd(t *testing.T) {
	five := lodging("1 2", "anna ben", 2, 1, "anna 0/1 0, anna 0/1 0, anna 0/1 0, anna 0/1 0, anna 0/1 0")
	for _, c := range []struct {
		what string
		l    api.Lodging
		x    api.Entry
		e    api.Errno
		n    int // how many truths there are then
	}{
		{"ben at 0/1 on the day 0", exampleL(""), entry("ben 0/1 0"), api.ErrClash, 0},
		{"ben at 0/2 on the day 0", exampleL(""), entry("ben 0/2 0"), api.OK, 4},
		{"cyd", exampleL(""), entry("cyd 0/2 0"), api.ErrClash, 0},
		{"an entry that was there", exampleL(""), entry("ben late 0/1 1"), api.OK, 8},
		{"a late house", exampleL(""), entry("anna late 0/2 1"), api.OK, 4},
		{"one more where there is no truth", exampleL("cyd 0/1 0"), entry("ben 0/1 0"), api.OK, 0},
		{"a true one where there is no truth", exampleL("cyd 0/1 0"), entry("anna 0/1 0"), api.OK, 0},
		{"the first entry", lodging("1", "anna", 1, 1, ""), entry("anna 0/1 0"), api.OK, 1},
		{"a first entry of nobody", lodging("1", "anna", 1, 1, ""), entry("ben 0/1 0"), api.ErrClash, 0},
		{"the fifth entry", withEntries(five, five.Entries[:4]...), entry("ben 0/1 1"), api.OK, 4},
		{"the sixth entry", five, entry("anna 0/1 0"), api.ErrFull, 0},
		{"a sixth entry that clashes", five, entry("ben 0/1 0"), api.ErrFull, 0},
		{"a sixth entry of no house", five, entry("ben 0/3 0"), api.ErrNoSuch, 0},
		{"a sixth entry of no day", five, entry("ben 0/1 2"), api.ErrRange, 0},
		{"no days", lodging("1", "anna", 0, 1, ""), entry("anna 0/3 0"), api.ErrRange, 0},
	} {
		m, e := lodge.Add(c.l, c.x)
		if e != c.e {
			t.Errorf("%s: error %d, want %d", c.what, e, c.e)
		}
		want := api.Lodging{}
		if c.e == api.OK {
			want = clone(c.l)
			want.Entries = append(want.Entries, c.x)
		}
		if !same(m, want) {
			t.Errorf("%s: %v, want %v", c.what, m, want)
		}
		if n, e := lodge.Truths(m); c.e == api.OK && (n != c.n || e != api.OK) {
			t.Errorf("%s: %d truths, error %d, want %d", c.what, n, e, c.n)
		}
	}
}

// TestAdded is P5.5 for entries thrown by a die: all lives are gone through with
// the entry and without it.
func TestAdded(t *testing.T) {
	d := die{state: 55}
	m := met{}
	for range 400 {
		l, _ := d.told(false)
		if len(l.Entries) == api.MaxEntries {
			l.Entries = l.Entries[1:]
		}
		x := d.entry(l)
		want := clone(l)
		want.Entries = append(want.Entries, x)
		due := api.OK
		if before, after := len(truthsOf(l)), len(truthsOf(want)); before > 0 && after == 0 {
			want, due = api.Lodging{}, api.ErrClash
			m["clash"]++
		} else if before == 0 {
			m["no truth before"]++
		} else {
			m["added"]++
		}
		if got, e := lodge.Add(l, x); !same(got, want) || e != due {
			t.Fatalf("%v, %v: %v, error %d, want error %d", l, x, got, e, due)
		}
	}
	m.mustAll(t, 30, "clash", "no truth before", "added")
}

// TestAllWhom is P5.4 for Whom: all lives are gone through one by one.
func TestAllWhom(t *testing.T) {
	m := met{}
	someLodgings(54, 2000, true, func(l api.Lodging, truths []truth) {
		for i, x := range l.Entries {
			var want []int
			for person := range l.People {
				is := func(t truth) bool { return t.isTold(l, i, person) }
				if slices.ContainsFunc(truths, is) {
					want = append(want, person)
				} else if len(truths) > 0 && fits(l, person, x) {
					m["a name that fits, of somebody elsewhere"]++
				}
			}
			due := api.OK
			if len(truths) == 0 {
				due = api.ErrClash
				m["no truth"]++
			} else {
				m[[]string{"", "one", "two", "three"}[len(want)]]++
			}
			if got, e := lodge.Whom(l, i); !slices.Equal(got, want) || e != due {
				t.Fatalf("%v, %d: %v, error %d, want %v, error %d", l, i, got, e, want, due)
			}
		}
	})
	m.mustAll(t, 50, "no truth", "one", "two")
	m.mustAll(t, 10, "three", "a name that fits, of somebody elsewhere")
}

// TestFewest is P5.10: all lists of entries are gone through, those with fewer
// entries first, then those that come before.
func TestFewest(t *testing.T) {
	m := met{}
	d := die{state: 510}
	for range 1000 {
		l, _ := d.told(false)
		for len(l.Entries) < api.MaxEntries && d.throw(4) > 0 {
			l.Entries = append(l.Entries, d.entry(l))
		}
		n := len(l.Entries)
		all := subsets(n)
		worlds := truthsWith(l, nil)
		some := func(told []int) bool {
			return slices.ContainsFunc(worlds, func(t truth) bool {
				return !slices.ContainsFunc(told, func(i int) bool { return !t.isTrue(l, i) })
			})
		}
		wrong, e := lodge.Wrong(l)
		want := all[slices.IndexFunc(all, func(s []int) bool { return some(without(n, s)) })]
		if !slices.Equal(wrong, want) || e != api.OK {
			t.Fatalf("%v: wrong are %v, error %d, want %v", l, wrong, e, want)
		}
		clash, e := lodge.Clash(l)
		at := slices.IndexFunc(all, func(s []int) bool { return !some(s) })
		if at == -1 {
			if len(clash) > 0 || e != api.ErrNone || len(wrong) > 0 {
				t.Fatalf("%v: the clash is %v, error %d", l, clash, e)
			}
			m["no clash"]++
			continue
		}
		if !slices.Equal(clash, all[at]) || e != api.OK {
			t.Fatalf("%v: the clash is %v, error %d, want %v", l, clash, e, all[at])
		}
		if !slices.ContainsFunc(clash, func(i int) bool { return slices.Contains(wrong, i) }) {
			t.Fatalf("%v: wrong are %v, but the clash is %v", l, wrong, clash)
		}
		m["wrong "+[]string{"", "one", "two", "three", "four", "five"}[len(wrong)]]++
		m["clash "+[]string{"", "one", "two", "three", "four", "five"}[len(clash)]]++
	}
	m.mustAll(t, 10, "no clash", "wrong one", "wrong two", "wrong three", "wrong four", "clash one", "clash two", "clash three")
}

// TestMore is P5.9: one entry more never adds anybody, nor a home, and never
// makes Moves wider; an entry that is true in all truths changes nothing.
func TestMore(t *testing.T) {
	d := die{state: 59}
	m := met{}
	for range 300 {
		l, _ := d.told(true)
		if len(l.Entries) == api.MaxEntries {
			l.Entries = l.Entries[1:]
		}
		x := d.entry(l)
		if len(l.Entries) > 0 && d.throw(3) == 0 {
			x = pick(&d, l.Entries...)
		}
		more := withEntries(l, append(slices.Clone(l.Entries), x)...)
		last := len(more.Entries) - 1
		with, without := truthsOf(more), truthsOf(l)
		if len(with) == 0 {
			m["no truth"]++
			continue
		}
		alike := len(with) == len(without)
		if !alike {
			m["fewer truths"]++
		} else {
			m["as many truths"]++
		}
		if alike != (verdictOf(truthsWith(more, upTo(last)), func(t truth) bool { return t.isTrue(more, last) }) == api.Sure) {
			t.Fatalf("%v, %v: wrong in the tests", l, x)
		}
		mustBeWithin(t, l, more, alike)
	}
	m.mustAll(t, 50, "no truth", "fewer truths", "as many truths")
}

// mustBeWithin fails if a lodging says something that another one does not, or
// has something else if they have to be alike.
func mustBeWithin(t *testing.T, l, more api.Lodging, alike bool) {
	t.Helper()
	within := func(what string, was, is []int) {
		if alike && !slices.Equal(was, is) || slices.ContainsFunc(is, func(n int) bool { return !slices.Contains(was, n) }) {
			t.Fatalf("%v, with %v: %s %v became %v", l, more.Entries, what, was, is)
		}
	}
	for day := range l.Days {
		for person := range l.People {
			was, _ := lodge.Where(l, person, day)
			is, e := lodge.Where(more, person, day)
			mustBe(t, "Where", e, api.OK)
			within("where", was, is)
		}
		for home := range homesOf(l) {
			was, _ := lodge.Who(l, home, day)
			is, e := lodge.Who(more, home, day)
			mustBe(t, "Who", e, api.OK)
			within("who", was, is)
		}
	}
	for person := range l.People {
		was, _ := lodge.Moves(l, person)
		is, e := lodge.Moves(more, person)
		if is.Low < was.Low || is.High > was.High || alike && is != was || e != api.OK {
			t.Fatalf("%v, with %v: moves %v became %v", l, more.Entries, was, is)
		}
	}
}

// TestTrue is P5.11: if all entries are those of lives that are possible, these
// lives lie within Where and Who, and nothing is wrong.
func TestTrue(t *testing.T) {
	d := die{state: 511}
	for range 400 {
		l, now := d.told(true)
		if wrong, e := lodge.Wrong(l); len(wrong) > 0 || e != api.OK {
			t.Fatalf("%v: wrong are %v, error %d", l, wrong, e)
		}
		if n, e := lodge.Truths(l); n == 0 || e != api.OK {
			t.Fatalf("%v: %d truths, error %d", l, n, e)
		}
		for day := range l.Days {
			for person, life := range now.lives {
				if where, _ := lodge.Where(l, person, day); !slices.Contains(where, life[day]) {
					t.Fatalf("%v: %d is at %d on %d, not at %v", l, person, life[day], day, where)
				}
			}
			for home := range homesOf(l) {
				if who, _ := lodge.Who(l, home, day); !slices.Contains(who, now.whoIs(home, day)) {
					t.Fatalf("%v: %d is at %d on %d, not %v", l, now.whoIs(home, day), home, day, who)
				}
			}
		}
	}
}

// TestSpelled is P5.13: an entry whose name can be that of one person alone is
// told of this person alone; one more rule never takes a truth away.
func TestSpelled(t *testing.T) {
	m := met{}
	someLodgings(513, 400, false, func(l api.Lodging, truths []truth) {
		for i, x := range l.Entries {
			one := slices.DeleteFunc(upTo(len(l.People)), func(person int) bool { return !fits(l, person, x) })
			if len(one) > 1 {
				m["several people"]++
				continue
			}
			if whom, e := lodge.Whom(l, i); !slices.Equal(whom, one) || e != api.OK {
				t.Fatalf("%v, %d: %v, error %d, want %v", l, i, whom, e, one)
			}
			m["one person"]++
		}
		for _, r := range someRules() {
			if len(l.Rules) == api.MaxRules {
				break
			}
			more := l
			more.Rules = append(slices.Clone(l.Rules), r)
			n, e := lodge.Truths(more)
			if n < len(truths) || e != api.OK {
				t.Fatalf("%v: %d truths, with the rule %v %d, error %d", l, len(truths), r, n, e)
			}
			if n > len(truths) {
				m["more truths"]++
			}
		}
	})
	m.mustAll(t, 20, "several people", "one person", "more truths")
}

// TestPlates is P5.15: an entry that is late is true of the home that becomes
// its house; a lodging whose story has one truth is as if its late entries had
// been told of the old plates.
func TestPlates(t *testing.T) {
	d := die{state: 515}
	m := met{}
	for range 600 {
		l, _ := d.told(false)
		sum := 0
		for _, p := range pasts(l) {
			old, ok := told(l, p)
			if !ok {
				m["a house that was none"]++
				continue
			}
			n, e := lodge.Truths(old)
			mustBe(t, "Truths", e, api.OK)
			sum += n
			if len(pasts(l)) == 1 && slices.ContainsFunc(l.Entries, func(x api.Entry) bool { return x.Late }) {
				mustBeAlike(t, l, old)
				m["one truth of the story"]++
			}
		}
		if n, e := lodge.Truths(l); n != sum || e != api.OK {
			t.Fatalf("%v: %d truths, error %d, but %d in the truths of the story", l, n, e, sum)
		}
		if len(pasts(l)) > 1 {
			m["several truths of the story"]++
		}
	}
	m.mustAll(t, 50, "a house that was none", "one truth of the story", "several truths of the story")
}

// told returns a lodging whose story has but one of its truths, with all entries
// told of the old plates, or false if there is an entry of no home.
func told(l api.Lodging, past truth) (api.Lodging, bool) {
	old := clone(l)
	for i, way := range past.ways {
		old.Story.Steps[i].Ways = l.Story.Steps[i].Ways[way : way+1]
	}
	for i, home := range past.houses {
		if home == -1 {
			return api.Lodging{}, false
		}
		old.Entries[i].Late, old.Entries[i].House = false, homesOf(l)[home]
	}
	return old, true
}
