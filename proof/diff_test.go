package proof_test

import (
	"slices"
	"strings"
	"testing"

	"wayzgoose/api"
	"wayzgoose/proof"
)

// TestDiffExamples is P7.3: the examples of Diff, and lists that are equally
// good.
func TestDiffExamples(t *testing.T) {
	for _, c := range []struct{ old, page, want string }{
		{exampleA, "anna, bea, ben, cid", exampleM},
		{"a, b", "b", "-0"},
		{"a, b", "c", "=0 c, -1"},
		{"", "", ""},
		{exampleA, exampleA, ""},
		{exampleA, "", "-0, -1, -2"},
		{"", "b, a, b", "+0 b, +0 a, +0 b"},
		{"a", "a, a", "+0 a"},
		{"a, a", "a", "-0"},
		{"a, a, a", "a", "-0, -1"},
		{"a, b", "b, a", "+0 b, -1"},
		{"a, b", "c, d", "=0 c, =1 d"},
		{"a", "c, d", "+0 c, =0 d"},
		{"a", "d, c", "+0 d, =0 c"},
		{"a, b", "x, b, b", "+0 x, =0 b"},
		{"a, b, c", "a, c, b", "+1 c, -2"},
		{"a, b, c", "c, b, a", "=0 c, =2 a"},
		{"a, b, c", "x, c", "=0 x, -1"},
		{"a, b, a", "a", "-0, -1"},
		{"a, b, c, d, e, f", "f, e, d, c, b, a", "+0 f, =0 e, =1 d, =3 b, =4 a, -5"},
		{"a, b, c, d, e, f", "u, v, w, x, y, z", "=0 u, =1 v, =2 w, =3 x, =4 y, =5 z"},
		{"a, b, c, d, e, f", "x, f", "=0 x, -1, -2, -3, -4"},
	} {
		mustEqual(t, c.old+" to "+c.page, diff(t, lines(c.old), lines(c.page)), marks(c.want))
	}
}

// TestDiffErrors is P7.3: the error of the old page first.
func TestDiffErrors(t *testing.T) {
	for _, c := range []struct {
		old, page []string
		want      api.Errno
	}{
		{[]string{""}, []string{"A"}, api.ErrShort},
		{[]string{"A"}, []string{""}, api.ErrForm},
		{make([]string, 7), []string{"A"}, api.ErrFull},
		{[]string{"a"}, make([]string, 7), api.ErrFull},
		{[]string{"a"}, []string{"abcdefghijk"}, api.ErrLong},
		{nil, []string{"a", ""}, api.ErrShort},
	} {
		_, e := proof.Diff(c.old, c.page)
		mustBe(t, "Diff", e, c.want)
	}
}

// eachInsertion goes through all lists of at most so many marks that put some
// texts in at a place.
func eachInsertion(at, most int, texts []string, do func([]api.Mark)) {
	do(nil)
	if most == 0 {
		return
	}
	for _, text := range texts {
		eachInsertion(at, most-1, texts, func(l []api.Mark) {
			do(append([]api.Mark{{Kind: api.MarkIn, At: at, Text: text}}, l...))
		})
	}
}

// eachList goes through all lists of marks from a line on that are valid for a
// page of so many lines, have no other texts than some, and put at most most
// lines in.
func eachList(at, many, most int, texts []string, do func([]api.Mark)) {
	eachInsertion(at, most, texts, func(in []api.Mark) {
		if at == many {
			do(in)
			return
		}
		eachList(at+1, many, most-len(in), texts, func(rest []api.Mark) {
			do(slices.Concat(in, rest))
			do(slices.Concat(in, []api.Mark{{Kind: api.MarkOut, At: at}}, rest))
			for _, text := range texts {
				do(slices.Concat(in, []api.Mark{{Kind: api.MarkSet, At: at, Text: text}}, rest))
			}
		})
	})
}

// eachPage goes through all pages of at most so many lines.
func eachPage(most int, texts []string, do func([]string)) {
	do(nil)
	if most == 0 {
		return
	}
	for _, text := range texts {
		eachPage(most-1, texts, func(page []string) { do(append([]string{text}, page...)) })
	}
}

// mustBeBest fails unless Diff returns the best of all lists between all pages
// of at most so many lines.
func mustBeBest(t *testing.T, most int, texts []string) {
	t.Helper()
	eachPage(most, texts, func(old []string) {
		best := map[string][]api.Mark{}
		eachList(0, len(old), most, texts, func(l []api.Mark) {
			page := strings.Join(made(old, l), ", ")
			if other, ok := best[page]; !ok || compareLists(l, other) < 0 {
				best[page] = l
			}
		})
		eachPage(most, texts, func(page []string) {
			want, ok := best[strings.Join(page, ", ")]
			if !ok {
				t.Fatalf("no list from %q to %q", old, page)
			}
			mustEqual(t, "Diff", diff(t, old, page), want)
		})
	})
}

// TestDiffAll is P7.3, P7.8 and P7.9 for all pages of a few lines: of all lists
// of marks that are valid for the old page, Diff returns the best one.
func TestDiffAll(t *testing.T) {
	mustBeBest(t, 3, []string{"a", "b"})
	mustBeBest(t, 2, []string{"a", "b", "a b", "0"})
}

// eachWay goes through all lists of marks that begin with some marks and make a
// page of an old one; at is the first line of the old page, and page are the
// lines, that the marks leave.
func eachWay(begin []api.Mark, at int, old, page []string, do func([]api.Mark)) {
	if at == len(old) && len(page) == 0 {
		do(begin)
		return
	}
	with := func(m api.Mark, at int, page []string) { eachWay(append(begin, m), at, old, page, do) }
	if len(page) > 0 {
		with(api.Mark{Kind: api.MarkIn, At: at, Text: page[0]}, at, page[1:])
	}
	if at == len(old) {
		return
	}
	with(api.Mark{Kind: api.MarkOut, At: at}, at+1, page)
	if len(page) == 0 {
		return
	}
	with(api.Mark{Kind: api.MarkSet, At: at, Text: page[0]}, at+1, page[1:])
	if old[at] == page[0] {
		eachWay(begin, at+1, old, page[1:], do)
	}
}

// bestOf returns the best list of marks that makes a page of an old one: all of
// them are tried.
func bestOf(old, page []string) []api.Mark {
	var best []api.Mark
	some := false
	eachWay(nil, 0, old, page, func(l []api.Mark) {
		if !some || compareLists(l, best) < 0 {
			best, some = slices.Clone(l), true
		}
	})
	return best
}

// mostCommon returns how many lines the longest list has that two pages have in
// their orders: all lists are tried.
func mostCommon(old, page []string) int {
	most := 0
	for chosen := range 1 << len(page) {
		var l []string
		for i, line := range page {
			if chosen>>i&1 == 1 {
				l = append(l, line)
			}
		}
		if isIn(l, old) {
			most = max(most, len(l))
		}
	}
	return most
}

// TestDiffThrown is P7.3, P7.8 and P7.9: of all lists that make the page Diff
// returns the best one, which makes it, and costs as many lines as it has less
// those of the longest list that both have.
func TestDiffThrown(t *testing.T) {
	d := die{state: 3}
	m := met{}
	for range 1000 {
		old := d.page(api.MaxLines)
		page := d.near(old)
		if d.throw(3) == 0 {
			page = d.page(api.MaxLines)
		}
		l := diff(t, old, page)
		mustEqual(t, "the best list", l, bestOf(old, page))
		got, e := proof.Apply(old, l)
		mustBe(t, "Apply", e, api.OK)
		mustEqual(t, "what Diff makes", got, page)
		n, e := proof.Cost(old, l)
		mustBe(t, "Cost", e, api.OK)
		if want := len(page) - mostCommon(old, page); n != want {
			t.Errorf("from %q to %q: the cost %d, want %d", old, page, n, want)
		}
		m["cost"] += n
		m["lines that stay"] += mostCommon(old, page)
		if len(old) == api.MaxLines && len(page) == api.MaxLines {
			m["full pages"]++
		}
	}
	m.mustAll(t, 50, "cost", "lines that stay", "full pages")
}

// TestByWay is P7.10: the cost from one page to another one is no more than by
// way of a third one, and is 0 just if the page is the old one without some
// lines.
func TestByWay(t *testing.T) {
	d := die{state: 10}
	m := met{}
	for range 5000 {
		a := d.page(api.MaxLines)
		b := d.near(a)
		c := d.near(b)
		cost := func(old, page []string) int {
			n, e := proof.Cost(old, diff(t, old, page))
			mustBe(t, "Cost", e, api.OK)
			return n
		}
		straight, by := cost(a, c), cost(a, b)+cost(b, c)
		if straight > by {
			t.Errorf("from %q to %q: %d, by way of %q: %d", a, c, straight, b, by)
		}
		if (straight == 0) != isIn(c, a) {
			t.Errorf("from %q to %q: %d", a, c, straight)
		}
		switch {
		case straight == 0:
			m["nothing"]++
		case straight < by:
			m["less"]++
		default:
			m["as much"]++
		}
	}
	m.mustAll(t, 100, "nothing", "less", "as much")
}
