package name_test

import (
	"slices"
	"strings"
	"testing"

	"wayzgoose/api"
	"wayzgoose/name"
)

// TestRuleErrors is about P3.3: the errors of rules, in their order, which all
// functions return before those of names.
func TestRuleErrors(t *testing.T) {
	for _, c := range []struct {
		r    []api.Rule
		want api.Errno
	}{
		{nil, api.OK},
		{rules(exampleR), api.OK},
		{rules("a=b a=b a=b a=b"), api.OK},
		{rules("a=b a=b a=b a=b a=b"), api.ErrFull},
		{rules("a=a a=b a=b a=b a=b"), api.ErrFull},
		{rules("ab=cd a=bc ab=c z="), api.OK},
		{rules("ab="), api.OK},
		{rules("=a"), api.ErrForm},
		{rules("="), api.ErrForm},
		{rules("a=a"), api.ErrForm},
		{rules("ab=ab"), api.ErrForm},
		{rules("abc=a"), api.ErrForm},
		{rules("a=abc"), api.ErrForm},
		{rules("A=b"), api.ErrForm},
		{rules("a=B"), api.ErrForm},
		{rules("a1=b"), api.ErrForm},
		{rules("a=b."), api.ErrForm},
		{rules("é=a"), api.ErrForm},
		{rules("a=é"), api.ErrForm},
		{[]api.Rule{{From: "a\xc3", To: "\xa9b"}}, api.ErrForm},
		{[]api.Rule{{From: " ", To: "a"}}, api.ErrForm},
		{rules("a=b b=c c=d d=d"), api.ErrForm},
	} {
		_, a := name.Uses(c.r, "a", "a")
		_, b := name.Verdict(c.r, "a", "a")
		_, d := name.Chain(c.r, "a", "a")
		_, f := name.Near(c.r, "a", names("a"))
		for i, e := range []api.Errno{a, b, d, f} {
			if e != c.want {
				t.Errorf("%v: function %d: error %d, want %d", c.r, i, e, c.want)
			}
		}
		if c.want == api.OK {
			continue
		}
		_, a = name.Uses(c.r, "", "HAT")
		_, b = name.Verdict(c.r, "", "HAT")
		_, d = name.Chain(c.r, "", "HAT")
		_, f = name.Near(c.r, "", names("HAT"))
		for i, e := range []api.Errno{a, b, d, f} {
			if e != c.want {
				t.Errorf("%v with wrong names: function %d: error %d, want %d", c.r, i, e, c.want)
			}
		}
	}
}

// TestRuleNames is about P3.3: the errors of the names, in their order.
func TestRuleNames(t *testing.T) {
	for _, c := range []struct {
		a, b string
		want api.Errno
	}{
		{"", "HAT", api.ErrShort},
		{"HAT", "", api.ErrForm},
		{"chadwik", "", api.ErrLong},
		{"a", "chadwik", api.ErrLong},
		{"a", "aB", api.ErrForm},
		{"a", "", api.ErrShort},
	} {
		r := rules(exampleR)
		_, a := name.Uses(r, c.a, c.b)
		_, b := name.Verdict(r, c.a, c.b)
		_, d := name.Chain(r, c.a, c.b)
		_, f := name.Near(r, c.a, []string{c.b})
		for i, e := range []api.Errno{a, b, d, f} {
			if e != c.want {
				t.Errorf("%q and %q: function %d: error %d, want %d", c.a, c.b, i, e, c.want)
			}
		}
	}
	_, e := name.Near(nil, "HAT", names("a b c d e f g"))
	mustBe(t, "a wrong name and a full list", e, api.ErrForm)
	_, e = name.Near(nil, "a", names("none b c d e f g"))
	mustBe(t, "a full list of wrong names", e, api.ErrFull)
}

// TestUses is about P3.3: the fewest uses, the chain, and the verdict.
func TestUses(t *testing.T) {
	for _, c := range []struct{ r, a, b, chain string }{
		{exampleR, "smith", "smyth", "smith smyth"},
		{exampleR, "smythe", "smith", "smythe smithe smith"},
		{exampleR, "smith", "smythe", "smith smithe smythe"},
		{exampleR, "ralph", "RALF", "ralph ralf"},
		{exampleR, "smith", "ralf", ""},
		{exampleR, "chad", "CAD", "chad"},
		{"", "chad", "CAD", "chad"},
		{"", "chad", "chade", ""},
		{"a=b", "aa", "bb", "aa ab bb"},
		{"a=b", "bb", "aa", "bb ab aa"},
		{"a=b", "aaa", "bbb", ""},
		{"a=b b=c", "a", "c", "a b c"},
		{"a=b b=c a=c", "a", "c", "a c"},
		{"a=b b=c c=d", "a", "d", ""},
		{"a=d d=c a=b b=c", "a", "c", "a b c"},
		{"a=", "b", "aba", "b ab aba"},
		{"a=", "b", "ba", "b ba"},
		{"a=", "bc", "bac", "bc bac"},
		{"a=", "a", "b", ""},
		{"a= b=", "a", "b", "a ab b"},
		{"ab=", "ab", "c", ""},
		{"ab= c=", "ab", "c", "ab abc c"},
		{"a=aa", "a", "aaa", "a aa aaa"},
		{"aa=b", "aaa", "ba", "aaa ba"},
		{"aa=b", "aaa", "ab", "aaa ab"},
		{"ab=ba", "aab", "baa", "aab aba baa"},
		{"ch=sh", "CAD", "XAD", "chad shad"},
		{"j=y a=", "YN", "yn", "jan jn yn"},
		{"aa=a", "aaaaaa", "aaaa", "aaaaaa aaaaa aaaa"},
	} {
		n, e := name.Uses(rules(c.r), c.a, c.b)
		verdict, f := name.Verdict(rules(c.r), c.a, c.b)
		chain, g := name.Chain(rules(c.r), c.a, c.b)
		want, wantV, wantE := names(c.chain), api.Open, api.OK
		switch len(want) {
		case 0:
			wantV, wantE = api.Out, api.ErrNone
		case 1:
			wantV = api.Sure
		}
		if n != max(0, len(want)-1) || e != wantE || verdict != wantV || f != api.OK || !slices.Equal(chain, want) || g != wantE {
			t.Errorf("%s; %s, %s: %d %d, %d %d, %v %d", c.r, c.a, c.b, n, e, verdict, f, chain, g)
		}
	}
}

// TestLongest is about P3.3: the string that a use makes has at most twelve
// letters.
func TestLongest(t *testing.T) {
	for _, c := range []struct{ r, a, b, chain string }{
		{"ch=sh", "CCCCCC", "XCCCCC", "chchchchchch shchchchchch"},
		{"s= c=", "CCCCCC", "XCCCCC", "chchchchchch hchchchchch shchchchchch"},
		{"s= c=", "CCCCC", "XCCCC", "chchchchch cshchchchch shchchchch"},
		{"c=sc sc=s", "CCCCCC", "XCCCCC", ""},
		{"c=sc sc=s", "CCCCC", "XCCCC", "chchchchch schchchchch shchchchch"},
		{"a=", "CCCCC", "ACCCCC", "chchchchch achchchchch"},
		{"a=", "CCCCCA", "ACCCCC", "chchchchcha achchchchcha achchchchch"},
		{"a= b=", "CCCCCC", "CCCCCC", "chchchchchch"},
	} {
		chain, e := name.Chain(rules(c.r), c.a, c.b)
		n, f := name.Uses(rules(c.r), c.a, c.b)
		wantE := api.OK
		if c.chain == "" {
			wantE = api.ErrNone
		}
		if !slices.Equal(chain, names(c.chain)) || e != wantE || n != max(0, len(chain)-1) || f != wantE {
			t.Errorf("%s; %s, %s: %v, error %d; %d, error %d", c.r, c.a, c.b, chain, e, n, f)
		}
	}
}

// TestAnyUses is about P3.3 and is P3.11: the fewest uses and the first chain,
// against all chains, whose steps are one use each.
func TestAnyUses(t *testing.T) {
	d := die{state: 33}
	met := map[int]int{}
	for range 4000 {
		r, a := d.rules(), d.name()
		b := d.near(r, a)
		if d.throw(6) == 0 {
			b = d.alike(a)
		}
		all := chains(r, keyOf(a), keyOf(b))
		want := usesOf(r, keyOf(a), keyOf(b))
		met[want]++
		n, e := name.Uses(r, a, b)
		verdict, f := name.Verdict(r, a, b)
		chain, g := name.Chain(r, a, b)
		if want == 3 {
			if n != 0 || e != api.ErrNone || verdict != api.Out || f != api.OK || chain != nil || g != api.ErrNone {
				t.Fatalf("%v; %s, %s: %d %d, %d %d, %v %d", r, a, b, n, e, verdict, f, chain, g)
			}
			continue
		}
		wantV := api.Open
		if want == 0 {
			wantV = api.Sure
		}
		if n != want || e != api.OK || verdict != wantV || f != api.OK || g != api.OK || !slices.Equal(chain, all[0]) {
			t.Fatalf("%v; %s, %s: %d %d, %d %d, %v %d, want %v", r, a, b, n, e, verdict, f, chain, g, all[0])
		}
		for i := 1; i < len(chain); i++ {
			if !useOf(r, chain[i-1])[chain[i]] {
				t.Fatalf("%v: %v is no chain", r, chain)
			}
		}
		if len(chain) != n+1 || chain[0] != keyOf(a) || chain[n] != keyOf(b) {
			t.Fatalf("%v; %s, %s: %v has not %d uses", r, a, b, chain, n)
		}
	}
	for n := range 4 {
		if met[n] < 100 {
			t.Errorf("%d uses only %d times", n, met[n])
		}
	}
}

// TestBoth is P3.10: as many uses lead back, and no more than by way of a third
// name lead to a name.
func TestBoth(t *testing.T) {
	d := die{state: 310}
	met := 0
	uses := func(r []api.Rule, a, b string) int {
		n, e := name.Uses(r, a, b)
		if e != api.OK {
			return 99
		}
		return n
	}
	for range 4000 {
		r, a := d.rules(), d.name()
		b := d.near(r, a)
		c := d.near(r, b)
		ab, bc, ac := uses(r, a, b), uses(r, b, c), uses(r, a, c)
		if ab != uses(r, b, a) {
			t.Fatalf("%v: %d uses from %s to %s, %d back", r, ab, a, b, uses(r, b, a))
		}
		if ab+bc > api.MaxUses {
			continue
		}
		if ac > ab+bc {
			t.Fatalf("%v: %d uses from %s to %s, fewer by way of %s", r, ac, a, c, b)
		}
		if ab > 0 && bc > 0 {
			met++
		}
	}
	if met < 100 {
		t.Errorf("only %d ways by a third name", met)
	}
}

// TestNear is about P3.3: the names near another one.
func TestNear(t *testing.T) {
	for _, c := range []struct {
		r, name, l string
		want       []int
	}{
		{exampleR, "smith", "ralf smyth smythe smith", []int{3, 1, 2}},
		{exampleR, "smith", "", nil},
		{exampleR, "smith", "ralf", nil},
		{"", "CAD", "chad CAD BEN chad", []int{0, 1, 3}},
		{"a=b", "aa", "bb ab aa ba AA bb", []int{2, 4, 1, 3, 0, 5}},
		{"a=b", "aaa", "bbb abb", []int{1}},
		{"f=ph", "RALF", "ralph RALF ralf", []int{1, 2, 0}},
	} {
		l, e := name.Near(rules(c.r), c.name, names(c.l))
		if !slices.Equal(l, c.want) || e != api.OK {
			t.Errorf("%s; %s; %s: %v, error %d, want %v", c.r, c.name, c.l, l, e, c.want)
		}
	}
}

// TestNearOrder is P3.12: just the names that are not Out are near, in the
// order of their uses.
func TestNearOrder(t *testing.T) {
	d := die{state: 312}
	met := map[int]int{}
	for range 1500 {
		r, x := d.rules(), d.name()
		var l []string
		for range d.throw(7) {
			l = append(l, d.near(r, x))
		}
		var want []int
		for uses := range 3 {
			for i, y := range l {
				if usesOf(r, keyOf(x), keyOf(y)) == uses {
					want = append(want, i)
				}
			}
		}
		near, e := name.Near(r, x, l)
		if !slices.Equal(near, want) || e != api.OK {
			t.Fatalf("%v; %s; %v: %v, error %d, want %v", r, x, l, near, e, want)
		}
		for i, y := range l {
			if verdict, _ := name.Verdict(r, x, y); slices.Contains(near, i) == (verdict == api.Out) {
				t.Fatalf("%v; %s, %s: verdict %d, near %v", r, x, y, verdict, near)
			}
		}
		met[len(near)]++
	}
	for n := range 7 {
		if met[n] < 20 {
			t.Errorf("%d names near only %d times", n, met[n])
		}
	}
}

// TestMoreRules is P3.13: one rule more makes no verdict Out that was not, and
// no uses more.
func TestMoreRules(t *testing.T) {
	d := die{state: 313}
	fewer, known := 0, 0
	for range 4000 {
		r, a := d.rules(), d.name()
		if len(r) == 0 {
			continue
		}
		less := slices.Delete(slices.Clone(r), 0, 1)
		b := d.near(r, a)
		before, e := name.Uses(less, a, b)
		after, f := name.Uses(r, a, b)
		v, _ := name.Verdict(less, a, b)
		w, _ := name.Verdict(r, a, b)
		if v != api.Out && w == api.Out || e == api.OK && (f != api.OK || after > before) {
			t.Fatalf("%v; %s, %s: %d uses, error %d, with one rule less %d, error %d", r, a, b, after, f, before, e)
		}
		if e == api.OK {
			known++
		}
		if f == api.OK && (e != api.OK || after < before) {
			fewer++
		}
	}
	if known < 100 || fewer < 100 {
		t.Errorf("only %d known, %d fewer", known, fewer)
	}
}

// TestPlaces is about P3.3: an empty To stands at each place of a string.
func TestPlaces(t *testing.T) {
	for at := range len("smith") + 1 {
		b := "smith"[:at] + "e" + "smith"[at:]
		n, e := name.Uses(rules("e="), "smith", b)
		m, f := name.Uses(rules("e="), b, "smith")
		if n != 1 || e != api.OK || m != 1 || f != api.OK || strings.Count(b, "e") != 1 {
			t.Errorf("%s: %d and back %d, errors %d, %d", b, n, m, e, f)
		}
	}
}
