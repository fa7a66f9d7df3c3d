package street_test

import (
	"slices"
	"testing"

	"wayzgoose/api"
	"wayzgoose/street"
)

// TestStoryErrors is about P1.3 to P1.5: the errors of a story, in their
// order, come before those of other arguments.
func TestStoryErrors(t *testing.T) {
	one := exampleS("")
	four := slices.Repeat(one.Steps, 2)
	none := api.Step{}
	wide := api.Step{Ways: slices.Repeat(changes("turn 0"), 4)}
	odd := api.Step{Ways: []api.Change{change("turn 0"), {Kind: 8}}}
	zero := api.Step{Ways: []api.Change{{}}}
	five := make([]api.Fact, 5)
	for _, c := range []struct {
		name  string
		steps []api.Step
		facts []api.Fact
		want  api.Errno
	}{
		{"four steps", four, nil, api.ErrFull},
		{"four steps without ways", make([]api.Step, 4), nil, api.ErrFull},
		{"a step without ways", []api.Step{one.Steps[0], none}, nil, api.ErrShort},
		{"a step without ways, then one with four", []api.Step{none, wide}, nil, api.ErrShort},
		{"a step with four ways", []api.Step{wide}, nil, api.ErrFull},
		{"four ways without kinds", []api.Step{{Ways: make([]api.Change, 4)}}, nil, api.ErrFull},
		{"the kind 8", []api.Step{odd}, nil, api.ErrKind},
		{"the kind 0, then no ways", []api.Step{zero, none}, nil, api.ErrKind},
		{"no ways, then the kind 0", []api.Step{none, zero}, nil, api.ErrShort},
		{"the kind 8 and five facts", []api.Step{odd}, five, api.ErrKind},
		{"five facts", one.Steps, five, api.ErrFull},
		{"a house that is none", nil, exampleS("0/9=0/41").Facts, api.ErrNoSuch},
		{"a house of no street", nil, exampleS("3/1=0/1").Facts, api.ErrNoSuch},
		{"a house of the street -1", nil, exampleS("-1/1=0/1").Facts, api.ErrNoSuch},
		{"the street 3", nil, exampleS("0/1=3/41").Facts, api.ErrNoSuch},
		{"the street -1", nil, exampleS("0/1=-1/1").Facts, api.ErrNoSuch},
		{"the number 41", nil, exampleS("0/1=0/41").Facts, api.ErrRange},
		{"the number 0", nil, exampleS("0/1=0/0").Facts, api.ErrRange},
		{"the letter 5", nil, exampleS("0/1=0/1e").Facts, api.ErrRange},
		{"range first, then no such house", nil, exampleS("0/1=0/41 0/9=0/1").Facts, api.ErrRange},
		{"no such house first, then range", nil, exampleS("0/1=0/1 0/9=0/1 0/1=0/41").Facts, api.ErrNoSuch},
	} {
		s := api.Story{First: town(exampleP), Steps: c.steps, Facts: c.facts}
		_, truths := street.Truths(s)
		_, ends := street.Ends(s)
		_, where := street.Where(s, at("9/9"))
		_, whence := street.Whence(s, at("9/9"))
		_, verdict := street.Verdict(s, at("9/9"), at("9/9"))
		_, lost := street.Lost(s)
		_, _, ask := street.Ask(s)
		_, settle := street.Settle(s)
		for i, e := range []api.Errno{truths, ends, where, whence, verdict, lost, ask, settle} {
			if e != c.want {
				t.Errorf("%s, function %d: error %d, want %d", c.name, i, e, c.want)
			}
		}
	}
}

// TestStoryLimits is about P1.3: a story as large as may be is valid, and
// whether its changes can be made is not asked.
func TestStoryLimits(t *testing.T) {
	s := story("1 2 3", "turn 0, swap 0, count 0; turn 0, swap 0, count 0; turn 0, swap 0, count 0", "")
	l, e := street.Truths(s)
	if e != api.OK || len(l) != 27 || !slices.Equal(l[5], []int{0, 1, 2}) {
		t.Errorf("27 truths: %v, error %d", l, e)
	}
	s = story("1 2 3", "", "0/1=0/1 0/2=0/2 0/3=0/3 0/1=0/1")
	l, e = street.Truths(s)
	if e != api.OK || len(l) != 1 || len(l[0]) != 0 {
		t.Errorf("four facts without a step: %v, error %d", l, e)
	}
	s = story("1 2 3", "join 0 0, turn 9, fell 0/9, swap -1", "")
	s.Steps[0].Ways = s.Steps[0].Ways[:3]
	l, e = street.Truths(s)
	if e != api.OK || len(l) != 0 {
		t.Errorf("changes that can't be made: %v, error %d", l, e)
	}
}

// TestTruths is about P1.3.
func TestTruths(t *testing.T) {
	for _, c := range []struct {
		name   string
		s      api.Story
		truths [][]int
		ends   []string
	}{
		{"the example", exampleS(""), [][]int{{0, 0}, {1, 0}}, []string{"1 2 3 4 5 7 8||", "1 2 3 4 6 7 8||"}},
		{"a fact", exampleS("0/3=0/3"), [][]int{{0, 0}}, []string{"1 2 3 4 5 7 8||"}},
		{"a fact that is in no truth", exampleS("0/3=0/5"), nil, nil},
		{"two facts of which just one can be", exampleS("0/3=0/3 0/1=0/2"), nil, nil},
		{"no step", story("1|2", "", ""), [][]int{nil}, []string{"1|2"}},
		{"no step and a false fact", story("1|2", "", "0/1=1/2"), nil, nil},
		{"no house", story("|", "turn 0; join 0 1", ""), [][]int{{0, 0}}, []string{"|"}},
		{"changes that come to the same", story("1 2", "turn 0, swap 0, count 0", ""), [][]int{{0}, {1}, {2}}, []string{"1 2"}},
		{"the same way twice", story("1 2", "swap 0, swap 0", ""), [][]int{{0}, {1}}, []string{"1 2"}},
		{"ends in the order of truths", story("3 5", "swap 0, count 0, swap 0", ""), [][]int{{0}, {1}, {2}}, []string{"4 6", "1 3"}},
		{"a way that can't be made", story("1 2", "join 0 0, swap 0, fell 0/3", ""), [][]int{{1}}, []string{"1 2"}},
		{"a way that can be made later", story("5", "swap 0, turn 0; fell 0/6, divide 0/5", ""), [][]int{{0, 0}, {1, 1}}, []string{"", "5 5a"}},
		{"either half", story("2", "divide 0/2; fell 0/2, fell 0/2a", "0/2=0/2a"), [][]int{{0, 0}}, []string{"2a"}},
		{"a half is enough", story("2", "divide 0/2", "0/2=0/2a 0/2=0/2"), [][]int{{0}}, []string{"2 2a"}},
		{"a house that is pulled down", story("2 4", "fell 0/2, fell 0/4", "0/2=0/2"), [][]int{{1}}, []string{"2"}},
		{"the plate of another house", story("2 4", "fell 0/2; count 0", "0/4=0/2"), [][]int{{0, 0}}, []string{"2"}},
	} {
		l, e := street.Truths(c.s)
		if e != api.OK || !sameLists(l, c.truths) {
			t.Errorf("%s: truths %v, error %d", c.name, l, e)
		}
		ends, e := street.Ends(c.s)
		same := func(p api.Plan, text string) bool { return samePlan(p, town(text)) }
		if e != api.OK || !slices.EqualFunc(ends, c.ends, same) {
			t.Errorf("%s: ends %v, error %d", c.name, ends, e)
		}
	}
}

// TestWhere is about P1.4; "-" stands for ErrNoSuch and "!" for ErrNone.
func TestWhere(t *testing.T) {
	doubt := story("1 2|", "divide 0/1, fell 0/1", "")
	gone := story(exampleP, "fell 0/2", "")
	never := story(exampleP, "join 0 0", "")
	halves := story("2 4", "divide 0/2; swap 0, turn 0", "")
	for _, c := range []struct {
		s                    api.Story
		house, where, whence string
	}{
		{exampleS(""), "0/1", "0/2 0/5", "0/2 0/5"},
		{exampleS(""), "0/2", "0/1 0/4", "0/1 0/4"},
		{exampleS(""), "0/3", "0/3 0/4", "0/3 0/4"},
		{exampleS(""), "0/6", "-", "0/5"},
		{exampleS(""), "1/1", "0/7", "-"},
		{exampleS(""), "0/7", "-", "1/1"},
		{exampleS(""), "0/9", "-", "-"},
		{exampleS(""), "3/1", "-", "-"},
		{exampleS("0/3=0/3"), "0/1", "0/5", "0/5"},
		{doubt, "0/1", "0/1 0/1a", "0/1"},
		{doubt, "0/1a", "-", "0/1"},
		{doubt, "0/2", "0/2", "0/2"},
		{gone, "0/2", "", "-"},
		{never, "0/2", "!", "!"},
		{never, "0/9", "-", "!"},
		{halves, "0/2", "0/1 0/1a 0/2a 0/4", "0/4"},
		{halves, "0/1a", "-", "0/2"},
		{halves, "0/2a", "-", "0/2"},
		{story("1", "", ""), "0/1", "0/1", "0/1"},
		{story("||", "", ""), "0/1", "-", "-"},
	} {
		l, e := street.Where(c.s, at(c.house))
		mustGo(t, "where "+c.house, l, e, c.where)
		l, e = street.Whence(c.s, at(c.house))
		mustGo(t, "whence "+c.house, l, e, c.whence)
	}
}

// mustGo fails unless places and an error are those of a text.
func mustGo(t *testing.T, what string, l []api.Place, e api.Errno, text string) {
	t.Helper()
	want, due := map[string]api.Errno{"-": api.ErrNoSuch, "!": api.ErrNone}[text], places(text)
	if want != api.OK {
		due = nil
	}
	if e != want || !slices.Equal(l, due) {
		t.Errorf("%s: %v, error %d, want %s", what, l, e, text)
	}
}

// TestVerdict is about P1.4.
func TestVerdict(t *testing.T) {
	never := story("1 2", "join 0 0", "")
	half := story("1 2", "divide 0/1", "")
	for _, c := range []struct {
		s        api.Story
		from, to string
		verdict  int
		want     api.Errno
	}{
		{exampleS(""), "1/1", "0/7", api.Sure, api.OK},
		{exampleS(""), "0/3", "0/3", api.Open, api.OK},
		{exampleS(""), "0/3", "0/4", api.Open, api.OK},
		{exampleS(""), "0/3", "1/1", api.Out, api.OK},
		{exampleS(""), "0/3", "9/99", api.Out, api.OK},
		{exampleS("0/3=0/3"), "0/3", "0/3", api.Sure, api.OK},
		{exampleS("0/3=0/4"), "0/3", "0/3", api.Out, api.OK},
		{half, "0/1", "0/1", api.Sure, api.OK},
		{half, "0/1", "0/1a", api.Sure, api.OK},
		{half, "0/2", "0/1a", api.Out, api.OK},
		{story("1 2", "turn 0, fell 0/1, turn 0", ""), "0/1", "0/1", api.Open, api.OK},
		{story("1 2", "fell 0/1, turn 0, turn 0", ""), "0/1", "0/1", api.Open, api.OK},
		{story("1 2", "fell 0/1, fell 0/1", ""), "0/1", "0/1", api.Out, api.OK},
		{never, "0/1", "0/1", 0, api.ErrNone},
		{never, "0/9", "0/1", 0, api.ErrNoSuch},
		{exampleS(""), "0/6", "0/1", 0, api.ErrNoSuch},
	} {
		v, e := street.Verdict(c.s, at(c.from), at(c.to))
		if v != c.verdict || e != c.want {
			t.Errorf("%v, %s %s: %d, error %d", c.s, c.from, c.to, v, e)
		}
	}
}

// TestLost is about P1.5.
func TestLost(t *testing.T) {
	for _, c := range []struct {
		s    api.Story
		lost string
	}{
		{exampleS(""), ""},
		{exampleS("0/3=0/5"), "!"},
		{story(exampleP, "fell 0/2", ""), "0/2"},
		{story("1 2 3|1", "fell 0/2, fell 0/3; fell 1/1", ""), "1/1"},
		{story("1 2 3|1", "fell 0/2, fell 0/3; fell 1/1", "0/3=0/3"), "0/2 1/1"},
		{story("1 2 3", "fell 0/3; fell 0/2; fell 0/1", ""), "0/1 0/2 0/3"},
		{story("1 2", "divide 0/1; fell 0/1", ""), ""},
		{story("1 2", "divide 0/1; fell 0/1; fell 0/1a", ""), "0/1"},
		{story("", "", ""), ""},
	} {
		l, e := street.Lost(c.s)
		mustGo(t, "lost", l, e, c.lost)
	}
}

// TestSearch is P1.11, and P1.3 to P1.5 for many stories: what is returned is
// what all choices of ways say that can be made and that all facts allow.
func TestSearch(t *testing.T) {
	d := die{state: 11}
	for range 500 {
		s := d.story(4)
		all := pasts(s)
		var ways [][]int
		var ends []api.Plan
		for _, u := range all {
			ways = append(ways, u.ways)
			if !slices.ContainsFunc(ends, func(p api.Plan) bool { return samePlan(p, u.end) }) {
				ends = append(ends, u.end)
			}
		}
		l, e := street.Truths(s)
		if e != api.OK || !sameLists(l, ways) {
			t.Fatalf("%v: truths %v, error %d, want %v", s, l, e, ways)
		}
		m, e := street.Ends(s)
		if e != api.OK || !slices.EqualFunc(m, ends, samePlan) {
			t.Fatalf("%v: ends %v, error %d, want %v", s, m, e, ends)
		}
		checkLost(t, s, all)
		for _, h := range append(housesOf(s.First), at("0/33"), at("2/40d")) {
			checkWhere(t, s, all, h)
			checkWhence(t, s, all, h)
		}
	}
}

func checkLost(t *testing.T, s api.Story, all []past) {
	t.Helper()
	lost, e := street.Lost(s)
	if len(all) == 0 {
		mustBe(t, "lost in no truth", e, api.ErrNone)
		return
	}
	for _, h := range housesOf(s.First) {
		ever := slices.ContainsFunc(all, func(u past) bool { return len(u.fate[h]) > 0 })
		if e != api.OK || slices.Contains(lost, h) == ever {
			t.Fatalf("%v: lost %v, error %d", s, lost, e)
		}
	}
	if !slices.IsSortedFunc(lost, comparePlaces) {
		t.Fatalf("%v: lost %v", s, lost)
	}
}

// checkWhere compares Where and Verdict with all truths (P1.4, P1.13).
func checkWhere(t *testing.T, s api.Story, all []past, h api.Place) {
	t.Helper()
	count, want := map[api.Place]int{}, api.OK
	for _, u := range all {
		for _, x := range u.fate[h] {
			count[x]++
		}
	}
	if !isHouse(s.First, h) {
		want = api.ErrNoSuch
	} else if len(all) == 0 {
		want = api.ErrNone
	}
	l, e := street.Where(s, h)
	if e != want || len(l) != len(count) || !slices.IsSortedFunc(l, comparePlaces) {
		t.Fatalf("%v: where %v: %v, error %d", s, h, l, e)
	}
	for _, to := range append(slices.Clone(l), h, at("7/7")) {
		verdict := api.Open
		if want != api.OK {
			verdict = 0
		} else if count[to] == 0 {
			verdict = api.Out
		} else if count[to] == len(all) {
			verdict = api.Sure
		}
		v, e := street.Verdict(s, h, to)
		if v != verdict || e != want || slices.Contains(l, to) != (count[to] > 0) {
			t.Fatalf("%v: verdict %v %v: %d, error %d", s, h, to, v, e)
		}
	}
}

// checkWhence compares Whence with all truths (P1.4).
func checkWhence(t *testing.T, s api.Story, all []past, house api.Place) {
	t.Helper()
	var due []api.Place
	for _, h := range housesOf(s.First) {
		if slices.ContainsFunc(all, func(u past) bool { return slices.Contains(u.fate[h], house) }) {
			due = append(due, h)
		}
	}
	want := api.OK
	if len(all) == 0 {
		want = api.ErrNone
	} else if len(due) == 0 {
		want = api.ErrNoSuch
	}
	l, e := street.Whence(s, house)
	if e != want || !slices.Equal(l, due) {
		t.Fatalf("%v: whence %v: %v, error %d, want %v", s, house, l, e, due)
	}
}

// TestThereAndBack is P1.12.
func TestThereAndBack(t *testing.T) {
	d := die{state: 12}
	for range 300 {
		s := d.story(5)
		ends, _ := street.Ends(s)
		for _, end := range ends {
			for _, x := range housesOf(end) {
				back, e := street.Whence(s, x)
				mustBe(t, "whence a house of an end", e, api.OK)
				for _, h := range housesOf(s.First) {
					there, e := street.Where(s, h)
					mustBe(t, "where a house becomes", e, api.OK)
					if slices.Contains(there, x) != slices.Contains(back, h) {
						t.Fatalf("%v: %v there %v, %v back %v", s, h, there, x, back)
					}
				}
			}
		}
	}
}

// TestSure is P1.13: Verdict is never Out for a house of Where, and Lost are
// the houses without any.
func TestSure(t *testing.T) {
	d := die{state: 13}
	for range 300 {
		s := d.story(5)
		lost, e := street.Lost(s)
		if e != api.OK {
			continue
		}
		for _, h := range housesOf(s.First) {
			l, _ := street.Where(s, h)
			for _, x := range l {
				if v, e := street.Verdict(s, h, x); v == api.Out || e != api.OK {
					t.Fatalf("%v: %v %v is %d, error %d", s, h, x, v, e)
				}
			}
			if slices.Contains(lost, h) != (len(l) == 0) {
				t.Fatalf("%v: %v: %v, lost %v", s, h, l, lost)
			}
		}
	}
}

// TestFacts is P1.14: one fact more never adds a truth or a place; a fact that
// is so in all truths takes none away.
func TestFacts(t *testing.T) {
	d := die{state: 14}
	for range 500 {
		s := d.story(4)
		if len(housesOf(s.First)) == 0 {
			continue
		}
		f := d.fact(s)
		more := s
		more.Facts = append(slices.Clone(s.Facts), f)
		before, _ := street.Truths(s)
		after, e := street.Truths(more)
		mustBe(t, "one fact more", e, api.OK)
		for _, ways := range after {
			if !slices.ContainsFunc(before, func(l []int) bool { return slices.Equal(l, ways) }) {
				t.Fatalf("%v: the fact %v adds the truth %v", s, f, ways)
			}
		}
		if v, _ := street.Verdict(s, f.From, f.To); v == api.Sure && len(after) != len(before) {
			t.Fatalf("%v: the fact %v takes truths away", s, f)
		}
		for _, h := range housesOf(s.First) {
			l, _ := street.Where(s, h)
			m, _ := street.Where(more, h)
			for _, x := range m {
				if !slices.Contains(l, x) {
					t.Fatalf("%v: the fact %v adds the place %v", s, f, x)
				}
			}
		}
	}
}
