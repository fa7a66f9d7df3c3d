package proof_test

import (
	"slices"
	"testing"

	"wayzgoose/api"
	"wayzgoose/proof"
)

// stock returns type: each line and how often, separated by commas.
func stock(text string) []api.Type {
	var l []api.Type
	for _, word := range words(text, ", ") {
		last := len(word) - 1
		l = append(l, api.Type{Text: word[:last-1], Count: int(word[last] - '0')})
	}
	return l
}

// TestYearsExamples is P7.5: the examples of Origin, Back, Stock and Fresh, and
// other ones.
func TestYearsExamples(t *testing.T) {
	for _, c := range []struct {
		years, page  string
		origin, back string
		stock        string
		fresh        int
	}{
		{exampleY, "anna, ben, dan", "1 0 -1", "1", "anna 1, ben 1, cyd 1", 1},
		{exampleY, "anna, anna", "1 1", "", "anna 1, ben 1, cyd 1", 1},
		{exampleY, "", "", "", "anna 1, ben 1, cyd 1", 0},
		{exampleY, "cyd, ben, anna", "1 0 1", "1", "anna 1, ben 1, cyd 1", 0},
		{exampleY, "ben, ben, ben", "0 0 0", "0 1 2", "anna 1, ben 1, cyd 1", 2},
		{"", "anna, ben", "-1 -1", "", "", 2},
		{"", "", "", "", "", 0},
		{"-", "a, a", "-1 -1", "", "", 2},
		{"a; -", "a, b", "0 -1", "0", "a 1", 1},
		{"-; a", "a, b", "1 -1", "", "a 1", 1},
		{"a", "a, b", "0 -1", "", "a 1", 1},
		{"a; b; a; c", "a, b, c, d", "2 1 3 -1", "0 1", "a 1, b 1, c 1", 1},
		{"a, a; a; a, a, b, a", "a, b, a, b, a, a", "2 2 2 2 2 2", "", "a 3, b 1", 2},
		{"b, a b, a, 0, a0", "b", "0", "", "0 1, a 1, a b 1, a0 1, b 1", 0},
	} {
		all, page := years(c.years), lines(c.page)
		what := c.years + ": " + c.page
		l, e := proof.Origin(all, page)
		mustBe(t, what+": Origin", e, api.OK)
		mustEqual(t, what+": Origin", l, numbers(c.origin))
		l, e = proof.Back(all, page)
		mustBe(t, what+": Back", e, api.OK)
		mustEqual(t, what+": Back", l, numbers(c.back))
		types, e := proof.Stock(all)
		mustBe(t, what+": Stock", e, api.OK)
		mustEqual(t, what+": Stock", types, stock(c.stock))
		n, e := proof.Fresh(all, page)
		mustBe(t, what+": Fresh", e, api.OK)
		if n != c.fresh {
			t.Errorf("%s: Fresh returns %d, want %d", what, n, c.fresh)
		}
	}
}

// badYears is years that are not valid, and their error.
type badYears struct {
	years [][]string
	want  api.Errno
}

func allBadYears() []badYears {
	return []badYears{
		{make([][]string, 5), api.ErrFull},
		{[][]string{{"A"}, nil, nil, nil, nil}, api.ErrFull},
		{[][]string{make([]string, 7), {"A"}}, api.ErrFull},
		{[][]string{{"A"}, make([]string, 7)}, api.ErrForm},
		{[][]string{{"a"}, {"a", ""}, {"A"}}, api.ErrShort},
		{[][]string{nil, nil, nil, {"abcdefghijk"}}, api.ErrLong},
	}
}

// TestYearsErrors is P7.5: the error of the years, then that of the page.
func TestYearsErrors(t *testing.T) {
	check := func(what string, all [][]string, page []string, want api.Errno) {
		t.Helper()
		_, e := proof.Origin(all, page)
		mustBe(t, what+": Origin", e, want)
		_, e = proof.Back(all, page)
		mustBe(t, what+": Back", e, want)
		_, e = proof.Fresh(all, page)
		mustBe(t, what+": Fresh", e, want)
	}
	for _, c := range allBadYears() {
		_, e := proof.Stock(c.years)
		mustBe(t, "Stock", e, c.want)
		for _, page := range [][]string{nil, {"A"}, {""}, make([]string, 7)} {
			check("years", c.years, page, c.want)
		}
	}
	four := [][]string{{"a"}, nil, {"a", "b"}, {"c"}}
	for _, all := range [][][]string{nil, four} {
		check("no error", all, []string{"a"}, api.OK)
		check("seven lines", all, make([]string, 7), api.ErrFull)
		for _, c := range badLines() {
			check("the page "+c.line, all, []string{"a", c.line}, c.want)
		}
	}
}

// TestYears is P7.5 and P7.14: the year of Origin has the line, and no later one
// has it; Back is just the lines whose Origin is an older year than the last one.
func TestYears(t *testing.T) {
	d := die{state: 14}
	m := met{}
	for range 5000 {
		all := d.years(api.MaxYears)
		page := d.page(api.MaxLines)
		if len(all) > 0 && d.throw(2) == 0 {
			page = d.near(pick(&d, all...))
		}
		origin, e := proof.Origin(all, page)
		mustBe(t, "Origin", e, api.OK)
		back, e := proof.Back(all, page)
		mustBe(t, "Back", e, api.OK)
		if len(origin) != len(page) {
			t.Fatalf("%q: %v", page, origin)
		}
		var older []int
		for i, line := range page {
			year := origin[i]
			if year >= 0 && !slices.Contains(all[year], line) {
				t.Errorf("%q, %q: %v", all, page, origin)
			}
			for _, later := range all[year+1:] {
				if slices.Contains(later, line) {
					t.Errorf("%q, %q: %v", all, page, origin)
				}
			}
			if year >= 0 && year < len(all)-1 {
				older = append(older, i)
			}
			if year < 0 {
				m["no year"]++
			} else if year == len(all)-1 {
				m["the last year"]++
			}
		}
		mustEqual(t, "Back", back, older)
		m["older years"] += len(back)
	}
	m.mustAll(t, 500, "no year", "the last year", "older years")
}

// TestStock is P7.5: each line that some year has is in Stock once, sorted, as
// often as that year has it that has it most often.
func TestStock(t *testing.T) {
	d := die{state: 15}
	for range 3000 {
		all := d.years(api.MaxYears)
		l, e := proof.Stock(all)
		mustBe(t, "Stock", e, api.OK)
		var want []api.Type
		for _, line := range slices.Compact(slices.Sorted(slices.Values(slices.Concat(all...)))) {
			x := api.Type{Text: line}
			for _, page := range all {
				x.Count = max(x.Count, howOften(page, line))
			}
			want = append(want, x)
		}
		mustEqual(t, "Stock", l, want)
	}
}

// TestType is P7.15: what has to be set anew for all years one after the other
// is all of Stock together; a page that stood in some year needs nothing, and one
// more year never makes anything dearer.
func TestType(t *testing.T) {
	d := die{state: 16}
	m := met{}
	for range 3000 {
		all := d.years(api.MaxYears)
		fresh := func(all [][]string, page []string) int {
			n, e := proof.Fresh(all, page)
			mustBe(t, "Fresh", e, api.OK)
			return n
		}
		sum := 0
		for i, page := range all {
			sum += fresh(all[:i], page)
			if n := fresh(all, page); n != 0 {
				t.Errorf("%q: %d for %q", all, n, page)
			}
		}
		l, _ := proof.Stock(all)
		for _, x := range l {
			sum -= x.Count
		}
		if sum != 0 {
			t.Errorf("%q: %d more than Stock", all, sum)
		}
		page := d.page(api.MaxLines)
		dearest := len(page)
		for i := range len(all) + 1 {
			n := fresh(all[:i], page)
			if n > dearest {
				t.Errorf("%q: %q is dearer by one year more", all[:i], page)
			}
			if n < dearest {
				m["cheaper"]++
			}
			dearest = n
		}
		if dearest > 0 {
			m["some"]++
		}
	}
	m.mustAll(t, 200, "cheaper", "some")
}

// TestFresh is P7.5: what Stock does not have often enough has to be set anew.
func TestFresh(t *testing.T) {
	d := die{state: 17}
	for range 3000 {
		all := d.years(api.MaxYears)
		page := d.page(api.MaxLines)
		n, e := proof.Fresh(all, page)
		mustBe(t, "Fresh", e, api.OK)
		standing := map[string]int{}
		l, _ := proof.Stock(all)
		for _, x := range l {
			standing[x.Text] = x.Count
		}
		want := 0
		for _, line := range page {
			if standing[line] == 0 {
				want++
			} else {
				standing[line]--
			}
		}
		if n != want {
			t.Errorf("%q, %q: %d, want %d", all, page, n, want)
		}
	}
}
