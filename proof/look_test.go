package proof_test

import (
	"slices"
	"testing"

	"wayzgoose/api"
	"wayzgoose/name"
	"wayzgoose/proof"
)

func lost(at int) api.Flaw  { return api.Flaw{Kind: api.FlawLost, At: at} }
func back(at int) api.Flaw  { return api.Flaw{Kind: api.FlawBack, At: at} }
func other(at int) api.Flaw { return api.Flaw{Kind: api.FlawOther, At: at} }

// mustLook fails unless Look returns a flaw and an error.
func mustLook(t *testing.T, what string, all [][]string, l []api.Mark, page []string, want api.Flaw, e api.Errno) {
	t.Helper()
	flaw, f := proof.Look(all, l, page)
	mustBe(t, what, f, e)
	if flaw != want {
		t.Errorf("%s: %v, want %v", what, flaw, want)
	}
}

// TestLookExamples is P7.6: the examples of Look, and other ones.
func TestLookExamples(t *testing.T) {
	none := api.Flaw{}
	for _, c := range []struct {
		years, l, proof string
		want            api.Flaw
	}{
		{exampleY, "+2 dan", "anna, cyd, dan", none},
		{exampleY, "+2 dan", "anna, dan", lost(1)},
		{exampleY, "+2 dan", "anna, cyd, ben, dan", back(2)},
		{exampleY, "+2 dan", "anna, cid, dan", other(1)},
		{"-", "", "", none},
		{"a", "-0", "", none},
		{"a", "", "", lost(0)},
		{"a, b, c", "", "a", lost(1)},
		{"a, b, c", "", "c, a, b", other(0)},
		{"a", "=0 b", "a", other(0)},
		{"a; b", "", "a", back(0)},
		{"a; b", "=0 c", "a", back(0)},
		{"a; b", "=0 c", "b", other(0)},
		// A line of the last year's page that was taken out is of no older year.
		{"a, b", "-1", "a, b", other(1)},
		{"x; a, b", "-1", "a, b", other(1)},
		{"b; a, b", "-1", "a, b", back(1)},
		// A line of the right page is not one that is back.
		{"a; a, b", "", "a, a, b", other(0)},
		{"b; -; a", "", "a, b", back(1)},
		{"a; b; c; d", "", "d, a", back(1)},
		{"a; b; c; d", "", "d, c", back(1)},
		{"a; b; c; d", "", "e, a", other(0)},
		// The first mark alone counts.
		{"x; a, b, c", "", "y, b, x", other(0)},
		{"x; a, b, c", "", "x, b, y", back(0)},
		{"x; a, b, c", "", "b, x, c", lost(0)},
	} {
		mustLook(t, c.years+": "+c.l+": "+c.proof, years(c.years), marks(c.l), lines(c.proof), c.want, api.OK)
	}
}

// TestLookErrors is P7.6: the errors of Look, in their order.
func TestLookErrors(t *testing.T) {
	bad := []string{"A"}
	six := []string{"a", "b", "c", "d", "e", "f"}
	for _, c := range allBadYears() {
		mustLook(t, "years", c.years, make([]api.Mark, 13), bad, api.Flaw{}, c.want)
	}
	mustLook(t, "no year", nil, make([]api.Mark, 13), bad, api.Flaw{}, api.ErrShort)
	mustLook(t, "marks for another year", [][]string{six, {"a"}}, marks("-5"), bad, api.Flaw{}, api.ErrNoSuch)
	mustLook(t, "too many lines", [][]string{{"a"}, six}, marks("+6 g"), bad, api.Flaw{}, api.ErrFull)
	mustLook(t, "the proof", [][]string{six, {"a"}}, marks("-0"), bad, api.Flaw{}, api.ErrForm)
	for _, c := range badLines() {
		mustLook(t, "the proof "+c.line, years("a"), nil, []string{"a", c.line}, api.Flaw{}, c.want)
	}
	mustLook(t, "a long proof", years("a"), nil, make([]string, 7), api.Flaw{}, api.ErrFull)
}

// TestLook is P7.6 and P7.16: a right proof has no flaw, each other one has that
// of the first mark of the best list of all; FlawBack is told only if the proof
// has a line that is on no line of the right page, but on one of a year before
// the last one.
func TestLook(t *testing.T) {
	d := die{state: 6}
	m := met{}
	for range 1500 {
		all := append(d.years(api.MaxYears-1), d.page(api.MaxLines))
		if len(all) > 1 && d.throw(2) == 0 {
			all = all[:len(all)-1]
		}
		last := len(all) - 1
		l := d.fitting(all[last])
		right := made(all[last], l)
		page := d.near(right)
		want := api.Flaw{}
		older := slices.Concat(all[:last]...)
		isBack := func(line string) bool { return !slices.Contains(right, line) && slices.Contains(older, line) }
		if best := bestOf(right, page); len(best) > 0 {
			want = other(best[0].At)
			if best[0].Kind == api.MarkOut {
				want.Kind = api.FlawLost
			} else if isBack(best[0].Text) {
				want.Kind = api.FlawBack
			}
		}
		mustLook(t, "Look", all, l, page, want, api.OK)
		if (want == api.Flaw{}) != slices.Equal(right, page) {
			t.Errorf("%q: %q has the flaw %v", right, page, want)
		}
		if want.Kind == api.FlawBack && !slices.ContainsFunc(page, isBack) {
			t.Errorf("%q: %q has no line that is back", all, page)
		}
		mustLook(t, "the right page", all, l, right, api.Flaw{}, api.OK)
		m[[]string{"none", "lost", "back", "other"}[want.Kind]]++
	}
	m.mustAll(t, 50, "none", "lost", "back", "other")
}

// someNames returns names of both alphabets, in their order, whose keys are
// lines.
func (d *die) someNames(t *testing.T) []string {
	all := []string{"anna", "ANNA", "ann", "CAD", "chad", "JAN", "YN", "smith", "SMIT", "smyth", "ralph", "RALF", "bea", "cyd"}
	var l []string
	for range 1 + d.throw(api.MaxLines) {
		l = append(l, pick(d, all...))
	}
	slices.SortStableFunc(l, func(a, b string) int {
		order, _ := name.Compare(a, b)
		return order
	})
	wrong, e := name.Wrong(l)
	mustBe(t, "Wrong", e, api.OK)
	mustEqual(t, "names at a wrong place", wrong, nil)
	return l
}

// TestCorrected is T3: on a page of names in their order a name that comes costs
// one line, one that goes none, and one that comes back from an older year is
// told as such.
func TestCorrected(t *testing.T) {
	d := die{state: 33}
	m := met{}
	for range 2000 {
		var page []string
		for _, x := range d.someNames(t) {
			key, e := name.Key(x)
			mustBe(t, "Key", e, api.OK)
			page = append(page, key)
		}
		at := d.throw(len(page))
		less := slices.Delete(slices.Clone(page), at, at+1)

		comes, goes := diff(t, less, page), diff(t, page, less)
		if len(comes) != 1 || comes[0].Kind != api.MarkIn || comes[0].Text != page[at] {
			t.Errorf("%s comes: %v", page[at], comes)
		}
		if len(goes) != 1 || goes[0].Kind != api.MarkOut || page[goes[0].At] != page[at] {
			t.Errorf("%s goes: %v", page[at], goes)
		}
		n, _ := proof.Cost(less, comes)
		none, _ := proof.Cost(page, goes)
		if n != 1 || none != 0 {
			t.Errorf("%s costs %d if it comes, %d if it goes", page[at], n, none)
		}

		mustLook(t, "with its mark", [][]string{page, less}, comes, page, api.Flaw{}, api.OK)
		if slices.Contains(less, page[at]) {
			m["another one stays"]++
			continue
		}
		mustLook(t, "without a mark", [][]string{page, less}, nil, page, back(at), api.OK)
		mustLook(t, "never there", [][]string{less, less}, nil, page, other(at), api.OK)
		l, _ := proof.Back([][]string{page, less}, page)
		mustEqual(t, "Back", l, []int{at})
		m["back"]++
	}
	m.mustAll(t, 100, "another one stays", "back")
}
