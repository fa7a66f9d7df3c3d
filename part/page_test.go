package part_test

import (
	"slices"
	"strings"
	"testing"

	"wayzgoose/api"
	"wayzgoose/name"
	"wayzgoose/part"
)

// TestEntryExamples is P6.2: the examples of Entry, and other ones.
func TestEntryExamples(t *testing.T) {
	for _, c := range []struct {
		part, person int
		want         string
		e            api.Errno
	}{
		{0, 3, "7 anna, *", api.OK}, {1, 2, "chad 1 3", api.OK}, {2, 2, "", api.ErrKind},
		{1, 3, "anna 0 7, *", api.OK}, {2, 3, "anna 0 7, *", api.OK}, {0, 0, "12 smith", api.OK}, {2, 1, "smyth 0 12", api.OK}, {0, 2, "3 chad", api.OK},
	} {
		l, e := part.Entry(exampleV(), c.part, c.person)
		mustBe(t, "Entry", e, c.e)
		mustEqual(t, "Entry", l, rows(c.want))
	}
	narrow := changed(func(v *api.Volume) { v.Width = 2 })
	for at := range parts {
		_, e := part.Entry(narrow, at, at%2)
		mustBe(t, "Entry with the width 2", e, api.ErrNone)
	}
	_, e := part.Entry(narrow, 2, 2)
	mustBe(t, "no trade, with the width 2", e, api.ErrKind)
	// The list of the names is that of all people, also in the part of trades.
	others := volume(3, 4, "anna 0/1 baker, ab 0/2, anton 0/3")
	for at, want := range []string{"1 aa.", "aa. 0 1", "aa. 0 1"} {
		mustEqual(t, "anna beside anton", entry(t, others, at, 0), rows(want))
	}
}

// TestSetExamples is P6.2: the examples of Set, and other ones.
func TestSetExamples(t *testing.T) {
	four := func(v *api.Volume) { v.Width = 4 }
	for _, c := range []struct {
		do   func(v *api.Volume)
		part int
		want string
	}{
		{func(*api.Volume) {}, 0, "street 0, 7 anna, *, 12 smith, 12 smyth, street 1, 3 chad"},
		{func(*api.Volume) {}, 2, "baker, smith 0 12, confectioner, smyth 0 12, hatter, anna 0 7, *"},
		{four, 1, "a, anna 0 7, *, c, chad 1 3, s, sih. 0 12, smy. 0 12"},
		{func(v *api.Volume) { v.People = nil }, 0, ""},
		{func(v *api.Volume) { v.People = v.People[2:3] }, 2, ""},
		{func(v *api.Volume) { v.Width, v.People = 1, []api.Person{{Name: "s", Number: 9, Head: -1}} }, 1, "s, s 0 9"},
	} {
		l, e := part.Set(changed(c.do), c.part)
		mustBe(t, "Set", e, api.OK)
		mustEqual(t, "Set", l, rows(c.want))
	}
	// Who does not stand in a part is not asked whether the name can be set.
	v := volume(1, 3, "a 0/1 baker, bb 0/2")
	l, e := part.Set(v, api.PartTrade)
	mustBe(t, "Set of a", e, api.OK)
	mustEqual(t, "Set of a", l, rows("baker, a 0 1"))
	for _, at := range []int{0, 1} {
		_, e := part.Set(v, at)
		_, f := part.Pages(v, at)
		mustBe(t, "Set of a and bb", e, api.ErrNone)
		mustBe(t, "Pages of a and bb", f, api.ErrNone)
	}
}

// TestPagesExamples is P6.2: the examples of Pages, and other ones.
func TestPagesExamples(t *testing.T) {
	for _, c := range []struct {
		rows   int
		people string
		part   int
		want   string
	}{
		{4, "smith 0/12 baker, smyth 0/12 confectioner, CAD 1/3, anna 0/7 hatter *", 0, "street 0, 7 anna, *, 12 smith; street 0 again, 12 smyth, street 1, 3 chad"},
		{4, "smith 0/12 baker, smyth 0/12 confectioner, CAD 1/3, anna 0/7 hatter *", 1, "a, anna 0 7, *; c, chad 1 3, s, smith 0 12; s again, smyth 0 12"},
		{4, "smith 0/12 baker, smyth 0/12 confectioner, CAD 1/3, anna 0/7 hatter *", 2, "baker, smith 0 12, confectioner, smyth 0 12; hatter, anna 0 7, *"},
		{4, "", 0, ""},
		{3, "ann 0/1", 2, ""},
		{3, "ann 0/1", 1, "a, ann 0 1"},
		// A page that is just full, and one with a row left for which there is no
		// entry.
		{3, "an 0/1, bo 0/2, cy 0/3", 0, "street 0, 1 an, 2 bo; street 0 again, 3 cy"},
		{3, "an 0/1, bo 1/2", 0, "street 0, 1 an; street 1, 2 bo"},
		{4, "an 0/1, bo 1/2", 0, "street 0, 1 an, street 1, 2 bo"},
		{3, "an 0/1, bo 0/2 *, cy 0/3 *", 0, "street 0, 1 an; street 0 again, 2 bo, *; street 0 again, 3 cy, *"},
		{4, "an 0/1, bo 0/2 *, cy 0/3", 0, "street 0, 1 an, 2 bo, *; street 0 again, 3 cy"},
		{5, "an 0/1, bo 0/2, cy 1/3 *", 0, "street 0, 1 an, 2 bo; street 1, 3 cy, *"},
		{5, "an 0/1 *, bo 1/2 *", 0, "street 0, 1 an, *; street 1, 2 bo, *"},
		{6, "an 0/1 *, bo 1/2 *", 0, "street 0, 1 an, *, street 1, 2 bo, *"},
		{8, "an 0/1, bo 0/2, cy 0/3, di 0/4, ed 0/5, fy 0/6 *", 0, "street 0, 1 an, 2 bo, 3 cy, 4 di, 5 ed, 6 fy, *"},
		{7, "an 0/1, bo 0/2, cy 0/3, di 0/4, ed 0/5, fy 0/6 *", 0, "street 0, 1 an, 2 bo, 3 cy, 4 di, 5 ed; street 0 again, 6 fy, *"},
		{3, "an 0/1, ab 0/2, ac 0/3", 1, "a, ab 0 2, ac 0 3; a again, an 0 1"},
	} {
		l, e := part.Pages(volume(5, c.rows, c.people), c.part)
		mustBe(t, "Pages", e, api.OK)
		if want := pages(c.want); !slices.EqualFunc(l, want, slices.Equal[[]string]) {
			t.Errorf("%s, part %d with %d rows: %q, want %q", c.people, c.part, c.rows, l, want)
		}
	}
}

// headed returns the rows of a part: each entry in the order of Order, with its
// heading in front of it if no entry before has it.
func headed(t *testing.T, v api.Volume, at int) []string {
	t.Helper()
	var l []string
	met := map[string]bool{}
	for _, n := range ordered(t, v, at) {
		if h := heading(v, at, v.People[n]); !met[h] {
			l = append(l, h)
			met[h] = true
		}
		l = append(l, entry(t, v, at, n)...)
	}
	return l
}

// settable returns a volume whose names can all be set.
func (d *die) settable() api.Volume {
	for {
		v := d.volume()
		if _, e := part.Short(v); e == api.OK && len(v.People) > 0 {
			return v
		}
	}
}

// TestHeadings is P6.2 and P6.8: each heading is set once, all entries behind it
// up to the next heading have it, and all entries are set.
func TestHeadings(t *testing.T) {
	d := die{state: 8}
	m := met{}
	for range 1500 {
		v := d.settable()
		for at := range parts {
			l, e := part.Set(v, at)
			mustBe(t, "Set", e, api.OK)
			mustEqual(t, "Set", l, headed(t, v, at))
			headings := map[string]int{}
			now, rest := "", ordered(t, v, at)
			for len(l) > 0 {
				if h := heading(v, at, v.People[rest[0]]); l[0] == h {
					now = h
					headings[h]++
					l = l[1:]
				}
				its := entry(t, v, at, rest[0])
				if heading(v, at, v.People[rest[0]]) != now || len(l) < len(its) || !slices.Equal(l[:len(its)], its) {
					t.Fatalf("%v, part %d: at %q below %q", v, at, l, now)
				}
				l, rest = l[len(its):], rest[1:]
			}
			if len(rest) > 0 {
				t.Fatalf("%v, part %d: %v are not set", v, at, rest)
			}
			for h, n := range headings {
				if n != 1 {
					t.Fatalf("%v, part %d: %s is set %d times", v, at, h, n)
				}
				m["headings"]++
			}
		}
	}
	m.mustAll(t, 3000, "headings")
}

// TestPages is P6.2 and P6.9.
func TestPages(t *testing.T) {
	d := die{state: 9}
	m := met{}
	for range 1500 {
		v := d.settable()
		for at := range parts {
			l, e := part.Pages(v, at)
			mustBe(t, "Pages", e, api.OK)
			mustBePages(t, v, at, l, m)
		}
	}
	m.mustAll(t, 500, "pages", "repeated", "new")
}

// mustBePages fails unless pages are as P6.9 says.
func mustBePages(t *testing.T, v api.Volume, at int, l [][]string, m met) {
	t.Helper()
	var all []string
	met := map[string]bool{}
	for _, n := range ordered(t, v, at) {
		met[heading(v, at, v.People[n])] = true
	}
	for i, page := range l {
		if len(page) > v.Rows || len(page) < 2 {
			t.Fatalf("%v, part %d: the page %q", v, at, page)
		}
		if last := page[len(page)-1]; met[last] || met[strings.TrimSuffix(last, " again")] {
			t.Fatalf("%v, part %d: the page %q ends with a heading", v, at, page)
		}
		plain, repeated := strings.CutSuffix(page[0], " again")
		if !met[plain] || page[1] == "*" {
			t.Fatalf("%v, part %d: the page %q begins with no heading", v, at, page)
		}
		rest := page
		if repeated {
			rest = page[1:]
			m["repeated"]++
		} else {
			m["new"]++
		}
		all = append(all, rest...)
		m["pages"]++
		if i == 0 {
			continue
		}
		// What the page begins with: a heading that is not repeated, if there is
		// one, and an entry, of two rows if it is bold.
		begins := 1
		if !repeated {
			begins++
		}
		if len(page) > 2 && page[2] == "*" {
			begins++
		}
		if len(l[i-1])+begins <= v.Rows {
			t.Fatalf("%v, part %d: %q fits onto %q", v, at, page[:2], l[i-1])
		}
	}
	set, _ := part.Set(v, at)
	mustEqual(t, "the pages without the headings that are repeated", all, set)
}

// TestShortExamples is P6.3: the examples of Short and Narrow, and other ones.
func TestShortExamples(t *testing.T) {
	for _, c := range []struct {
		width int
		want  string
		e     api.Errno
	}{{5, "", api.OK}, {4, "0 1", api.OK}, {3, "0 1 2 3", api.OK}, {2, "", api.ErrNone}, {1, "", api.ErrNone}, {13, "", api.OK}} {
		l, e := part.Short(changed(func(v *api.Volume) { v.Width = c.width }))
		mustBe(t, "Short", e, c.e)
		mustEqual(t, "Short", l, numbers(c.want))
	}
	for _, c := range []struct {
		people string
		want   int
	}{
		{"smith 0/12 baker, smyth 0/12 confectioner, CAD 1/3, anna 0/7 hatter *", 3},
		{"", 1}, {"a 0/1", 1}, {"ab 0/1", 2}, {"abc 0/1", 2}, {"ab 0/1, ac 0/2", 2}, {"abc 0/1, abd 0/2", 3},
		{"XXXXXX 0/1", 2}, {"XXXXXX 0/1, XXXXXY 0/2", 7}, {"chad 0/1, CAD 0/2", 2},
	} {
		n, e := part.Narrow(volume(9, 4, c.people))
		mustBe(t, "Narrow", e, api.OK)
		if n != c.want {
			t.Errorf("Narrow of %s: %d, want %d", c.people, n, c.want)
		}
	}
}

// TestShort is P6.3: Short returns just those whose name is abbreviated, and
// Narrow the least width for which name.Fit returns something for all.
func TestShort(t *testing.T) {
	d := die{state: 3}
	m := met{}
	for range 2000 {
		v := d.volume()
		var names []string
		for _, p := range v.People {
			names = append(names, p.Name)
		}
		var want []int
		wantError := api.OK
		for i, s := range names {
			text, e := name.Fit(names, i, v.Width)
			if key, _ := name.Key(s); e == api.OK && text != key {
				want = append(want, i)
			}
			if e != api.OK {
				wantError = api.ErrNone
			}
		}
		if wantError != api.OK {
			want = nil
			m["none"]++
		}
		l, e := part.Short(v)
		mustBe(t, "Short", e, wantError)
		mustEqual(t, "Short", l, want)
		m["short"] += len(l)
	}
	m.mustAll(t, 200, "none", "short")
}

// TestNotMistaken is P6.10: two people whose names have different keys have
// different names in their entries.
func TestNotMistaken(t *testing.T) {
	d := die{state: 10}
	m := met{}
	for range 2000 {
		v := d.settable()
		for at := range parts {
			texts := map[string]string{}
			for _, n := range ordered(t, v, at) {
				words := strings.Fields(entry(t, v, at, n)[0])
				text := words[0]
				if at == api.PartStreet {
					text = words[1]
				}
				key, _ := name.Key(v.People[n].Name)
				if before, ok := texts[text]; ok && before != key {
					t.Fatalf("%v, part %d: %s is %s and %s", v, at, text, before, key)
				}
				texts[text] = key
				if text != key {
					m["short"]++
				}
			}
		}
	}
	m.mustAll(t, 500, "short")
}

// TestWider is P6.11: with a greater width no other people are abbreviated, and
// Narrow is the least width with which Set succeeds for the part of names.
func TestWider(t *testing.T) {
	d := die{state: 11}
	for range 1000 {
		v := d.volume()
		narrow, e := part.Narrow(v)
		mustBe(t, "Narrow", e, api.OK)
		var before []int
		for v.Width = 1; v.Width <= api.MaxWidth; v.Width++ {
			_, set := part.Set(v, api.PartName)
			if (set == api.OK) != (v.Width >= narrow) {
				t.Fatalf("%v: error %d, Narrow returns %d", v, set, narrow)
			}
			l, e := part.Short(v)
			mustBe(t, "Short", e, set)
			if e != api.OK {
				continue
			}
			for _, n := range l {
				if v.Width > narrow && !slices.Contains(before, n) {
					t.Fatalf("%v: %d is abbreviated", v, n)
				}
			}
			before = l
		}
	}
}

// TestColumns is T2: the part of names has people in the order of both
// alphabets, and shows for each of them a key or an abbreviation that cannot be
// mistaken.
func TestColumns(t *testing.T) {
	d := die{state: 14}
	for range 1000 {
		v := d.settable()
		var names, all []string
		for _, p := range v.People {
			all = append(all, p.Name)
		}
		for _, n := range ordered(t, v, api.PartName) {
			names = append(names, v.People[n].Name)
			text := strings.Fields(entry(t, v, api.PartName, n)[0])[0]
			key, _ := name.Key(v.People[n].Name)
			if text == key {
				continue
			}
			stands, e := name.Stands(text, all)
			mustBe(t, "Stands", e, api.OK)
			for _, i := range stands {
				if other, _ := name.Key(all[i]); other != key {
					t.Fatalf("%v: %s stands for %s, too", v, text, all[i])
				}
			}
			if !slices.Contains(stands, n) {
				t.Fatalf("%v: %s does not stand for %s", v, text, key)
			}
		}
		wrong, e := name.Wrong(names)
		mustBe(t, "Wrong", e, api.OK)
		mustEqual(t, "names at a wrong place", wrong, nil)
	}
}

// TestRenumbered is P6.20: if the people stand in another order in the volume,
// all parts have the same rows.
func TestRenumbered(t *testing.T) {
	d := die{state: 20}
	for range 1500 {
		v := d.volume()
		w := inVolume(v, shuffled(&d, v.People))
		for at := range parts {
			a, e := part.Set(v, at)
			b, f := part.Set(w, at)
			mustBe(t, "Set in another order", f, e)
			mustEqual(t, "Set in another order", b, a)
			c, _ := part.Pages(v, at)
			o, _ := part.Pages(w, at)
			if !slices.EqualFunc(c, o, slices.Equal[[]string]) {
				t.Fatalf("%v: %q; %v: %q", v, c, w, o)
			}
		}
	}
}
