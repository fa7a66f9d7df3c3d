package name_test

import (
	"math"
	"slices"
	"strings"
	"testing"

	"wayzgoose/api"
	"wayzgoose/name"
)

// TestShort is about P3.4: whether an abbreviation stands for a name.
func TestShort(t *testing.T) {
	for _, c := range []struct {
		abbr, name string
		want       bool
	}{
		{"cd.", "chad", true},
		{"hd.", "chad", false},
		{"chad.", "chad", false},
		{"cha.", "chad", true},
		{"had.", "chad", false},
		{"c.", "chad", true},
		{"h.", "CAD", false},
		{"cd.", "CAD", true},
		{"cad.", "CAD", true},
		{"chad.", "CAD", false},
		{"cdh.", "chad", false},
		{"cc.", "chad", false},
		{"cc.", "chc", true},
		{"a.", "a", false},
		{"a.", "aa", true},
		{"aa.", "aa", false},
		{"aa.", "aba", true},
		{"aaa.", "abaa", true},
		{"aaa.", "abab", false},
		{"x.", "XAV", false},
		{"sv.", "XAV", true},
		{"cchhhhh.", "CCCCCC", true},
		{"cchhhhhh.", "CCCCCC", false},
		{"cccccc.", "CCCCCC", true},
		{"chhhhhh.", "CCCCCC", true},
		{"chchchchchc.", "CCCCCC", true},
		{"chchchchchch.", "CCCCCC", false},
	} {
		is, e := name.Short(c.abbr, c.name)
		if is != c.want || e != api.OK {
			t.Errorf("%s, %s: %v, error %d, want %v", c.abbr, c.name, is, e, c.want)
		}
	}
}

// TestShortErrors is about P3.4: the errors of abbreviations, returned before
// those of names and of lists.
func TestShortErrors(t *testing.T) {
	for _, c := range []struct {
		abbr string
		want api.Errno
	}{
		{"c.", api.OK},
		{"abcdefghijkl.", api.OK},
		{"abcdefghijklm.", api.ErrForm},
		{"", api.ErrForm},
		{".", api.ErrForm},
		{"cd", api.ErrForm},
		{"cd..", api.ErrForm},
		{"c.d.", api.ErrForm},
		{".cd", api.ErrForm},
		{"CD.", api.ErrForm},
		{"cD.", api.ErrForm},
		{"c d.", api.ErrForm},
		{"cd. ", api.ErrForm},
		{"c1.", api.ErrForm},
		{"é.", api.ErrForm},
		{"\xff.", api.ErrForm},
		{"cd.\n", api.ErrForm},
		{"cd,", api.ErrForm},
		{strings.Repeat("a", 1<<16) + ".", api.ErrForm},
	} {
		_, e := name.Short(c.abbr, "chad")
		_, f := name.Stands(c.abbr, names("chad"))
		mustBe(t, "Short with "+c.abbr, e, c.want)
		mustBe(t, "Stands with "+c.abbr, f, c.want)
		if c.want == api.OK {
			continue
		}
		_, e = name.Short(c.abbr, "")
		_, f = name.Stands(c.abbr, names("a b c d e f g"))
		mustBe(t, "Short of a wrong name with "+c.abbr, e, c.want)
		mustBe(t, "Stands of a wrong list with "+c.abbr, f, c.want)
	}
	for _, c := range []struct {
		name string
		want api.Errno
	}{{"", api.ErrShort}, {"chadwik", api.ErrLong}, {"HAT", api.ErrForm}} {
		is, e := name.Short("c.", c.name)
		if is || e != c.want {
			t.Errorf("%q: %v, error %d, want %d", c.name, is, e, c.want)
		}
	}
}

// TestStands is about P3.4: the names of a list for which an abbreviation
// stands.
func TestStands(t *testing.T) {
	for _, c := range []struct {
		abbr, l string
		want    []int
	}{
		{"sm.", exampleL, []int{0, 1, 2}},
		{"sy.", exampleL, []int{1}},
		{"x.", exampleL, nil},
		{"sm.", "", nil},
		{"sam.", exampleL, nil},
		{"ch.", "CAD chad ch C chc BEN", []int{0, 1, 4}},
		{"a.", "a A aa AA b", []int{2, 3}},
	} {
		l, e := name.Stands(c.abbr, names(c.l))
		if !slices.Equal(l, c.want) || e != api.OK {
			t.Errorf("%s; %s: %v, error %d, want %v", c.abbr, c.l, l, e, c.want)
		}
	}
}

// abbreviation returns letters, most often some of those of a name in their
// order.
func (d *die) abbreviation(k string) string {
	s := ""
	for i, r := range k {
		if i == 0 || d.throw(2) == 0 {
			s += string(r)
		}
	}
	if d.throw(6) == 0 {
		at := d.throw(len(s))
		s = s[:at] + d.word("achsb", 1) + s[at+1:]
	}
	return s
}

// TestAnyShort is about P3.4: abbreviations against all choices of letters.
func TestAnyShort(t *testing.T) {
	d := die{state: 34}
	yes := 0
	for range 2000 {
		l := append(d.list(), d.name())[:1]
		for range d.throw(5) {
			l = append(l, d.alike(l[0]))
		}
		letters := d.abbreviation(keyOf(l[0]))
		var want []int
		for i, x := range l {
			is, e := name.Short(letters+".", x)
			if is != standsFor(letters, keyOf(x)) || e != api.OK {
				t.Fatalf("%s. and %s: %v, error %d", letters, x, is, e)
			}
			if is {
				want = append(want, i)
			}
		}
		stands, e := name.Stands(letters+".", l)
		if !slices.Equal(stands, want) || e != api.OK {
			t.Fatalf("%s. and %v: %v, error %d, want %v", letters, l, stands, e, want)
		}
		yes += len(want)
	}
	if yes < 1000 {
		t.Errorf("only %d abbreviations stand for a name", yes)
	}
}

// TestCut is P3.14: an abbreviation stands for all names for which one with a
// letter more stands, and for no name that has as many letters.
func TestCut(t *testing.T) {
	d := die{state: 314}
	met := 0
	for range 1000 {
		l := append(d.list(), d.name())[:1]
		for range d.throw(5) {
			l = append(l, d.alike(l[0]))
		}
		letters := d.abbreviation(keyOf(l[0]))
		longer, e := name.Stands(letters+".", l)
		mustBe(t, "Stands", e, api.OK)
		for _, i := range longer {
			if len(keyOf(l[i])) <= len(letters) {
				t.Fatalf("%s. stands for %s", letters, l[i])
			}
		}
		for at := 1; at < len(letters); at++ {
			less := letters[:at] + letters[at+1:] + "."
			shorter, e := name.Stands(less, l)
			mustBe(t, "Stands", e, api.OK)
			for _, i := range longer {
				met++
				if !slices.Contains(shorter, i) {
					t.Fatalf("%s. stands for %s, %s does not", letters, l[i], less)
				}
			}
		}
	}
	if met < 1000 {
		t.Errorf("only %d abbreviations with a letter less", met)
	}
}

// TestShortest is about P3.5: the shortest abbreviation, and the errors of
// Shortest in their order.
func TestShortest(t *testing.T) {
	for _, c := range []struct {
		l    string
		at   int
		want string
		e    api.Errno
	}{
		{exampleL, 0, "si.", api.OK},
		{exampleL, 1, "sy.", api.OK},
		{exampleL, 2, "sa.", api.OK},
		{exampleL, 3, "", api.ErrNoSuch},
		{exampleL, -1, "", api.ErrNoSuch},
		{exampleL, math.MinInt, "", api.ErrNoSuch},
		{exampleL, math.MaxInt, "", api.ErrNoSuch},
		{"", 0, "", api.ErrNoSuch},
		{"none", 3, "", api.ErrShort},
		{"a b c d e f g", 9, "", api.ErrFull},
		{"chad CAD", 0, "c.", api.OK},
		{"chad CAD", 1, "c.", api.OK},
		{"a", 0, "", api.ErrNone},
		{"A b", 0, "", api.ErrNone},
		{"aa", 0, "a.", api.OK},
		{"aa aaa", 0, "", api.ErrNone},
		{"aa aaa", 1, "aa.", api.OK},
		{"ab abc", 0, "", api.ErrNone},
		{"ab abc", 1, "ab.", api.OK},
		{"a abc", 1, "a.", api.OK},
		{"abc cba", 0, "a.", api.OK},
		{"smith smyth", 0, "si.", api.OK},
		{"abcb abb", 0, "ac.", api.OK},
		{"abcd abdc", 0, "acd.", api.OK},
		{"CAD chud", 0, "ca.", api.OK},
		{"CCCCCC CCCCC", 0, "cccccc.", api.OK},
		{"sszx ssxz", 0, "szx.", api.OK},
	} {
		abbr, e := name.Shortest(names(c.l), c.at)
		if abbr != c.want || e != c.e {
			t.Errorf("%s; %d: %q, error %d, want %q, error %d", c.l, c.at, abbr, e, c.want, c.e)
		}
	}
}

// TestLeast is P3.15: all abbreviations are gone through, those with fewer
// letters first, then those that come before.
func TestLeast(t *testing.T) {
	d := die{state: 315}
	met := map[int]int{}
	for range 2500 {
		l := append(d.list(), d.name())
		l = l[max(0, len(l)-6):]
		at := d.throw(len(l))
		abbr, e := name.Shortest(l, at)
		all := clearCuts(l, at)
		if len(all) == 0 {
			if abbr != "" || e != api.ErrNone {
				t.Fatalf("%v; %d: %q, error %d, want none", l, at, abbr, e)
			}
			met[0]++
			continue
		}
		if abbr != all[0]+"." || e != api.OK {
			t.Fatalf("%v; %d: %q, error %d, want %s.", l, at, abbr, e, all[0])
		}
		met[len(all[0])]++
	}
	for n := range 5 {
		if met[n] < 5 {
			t.Errorf("%d letters only %d times", n, met[n])
		}
	}
}

// TestFit is about P3.5: what is set in a column, and the errors of Fit in
// their order.
func TestFit(t *testing.T) {
	for _, c := range []struct {
		l         string
		at, width int
		want      string
		e         api.Errno
	}{
		{exampleL, 0, 5, "smith", api.OK},
		{exampleL, 0, 4, "sih.", api.OK},
		{exampleL, 0, 3, "si.", api.OK},
		{exampleL, 0, 2, "", api.ErrNone},
		{exampleL, 0, 1, "", api.ErrNone},
		{exampleL, 0, 0, "", api.ErrRange},
		{exampleL, 0, -1, "", api.ErrRange},
		{exampleL, 0, math.MinInt, "", api.ErrRange},
		{exampleL, 0, math.MaxInt, "smith", api.OK},
		{exampleL, 2, 3, "sam", api.OK},
		{exampleL, 2, 2, "", api.ErrNone},
		{exampleL, 3, 0, "", api.ErrNoSuch},
		{exampleL, -1, 5, "", api.ErrNoSuch},
		{"", 0, 5, "", api.ErrNoSuch},
		{"none", 9, 0, "", api.ErrShort},
		{"a b c d e f g", 9, 0, "", api.ErrFull},
		{"CAD", 0, 4, "chad", api.OK},
		{"CAD", 0, 3, "ca.", api.OK},
		{"CAD", 0, 2, "c.", api.OK},
		{"CAD", 0, 1, "", api.ErrNone},
		{"CAD chad", 0, 3, "ca.", api.OK},
		{"CAD chud", 0, 3, "ca.", api.OK},
		{"CAD chud", 1, 3, "cu.", api.OK},
		{"a", 0, 1, "a", api.OK},
		{"ab ab", 1, 1, "", api.ErrNone},
		{"aa aaa", 0, 2, "aa", api.OK},
		{"aa aaa", 0, 1, "", api.ErrNone},
		{"abcde abxde", 0, 4, "abc.", api.OK},
		{"abcde abcdf", 0, 4, "abe.", api.OK},
		{"CCCCCC", 0, 11, "ccchchchch.", api.OK},
		{"CCCCCC", 0, 12, "chchchchchch", api.OK},
	} {
		text, e := name.Fit(names(c.l), c.at, c.width)
		if text != c.want || e != c.e {
			t.Errorf("%s; %d; %d: %q, error %d, want %q, error %d", c.l, c.at, c.width, text, e, c.want, c.e)
		}
	}
}

// fitOf returns what is due in a column, the empty string if there is none.
func fitOf(l []string, at, width int) string {
	if k := keyOf(l[at]); len(k) <= width {
		return k
	}
	best := ""
	for _, s := range clearCuts(l, at) {
		if len(s)+1 <= width && len(s) >= len(best) {
			best = s + "."
		}
	}
	return best
}

// TestColumn is P3.16: what is set has at most the width, is the key or cannot
// be mistaken, and a wider column never has fewer letters. All abbreviations
// are gone through.
func TestColumn(t *testing.T) {
	d := die{state: 316}
	cut := 0
	for range 600 {
		l := append(d.list(), d.name())
		l = l[max(0, len(l)-6):]
		at := d.throw(len(l))
		letters := 0
		for width := 1; width <= 13; width++ {
			text, e := name.Fit(l, at, width)
			want := fitOf(l, at, width)
			if text != want || (e == api.OK) != (want != "") || e != api.OK && e != api.ErrNone {
				t.Fatalf("%v; %d; %d: %q, error %d, want %q", l, at, width, text, e, want)
			}
			s, short := strings.CutSuffix(text, ".")
			if len(text) > width || len(s) < letters {
				t.Fatalf("%v; %d; %d: %q after %d letters", l, at, width, text, letters)
			}
			letters = len(s)
			if e != api.OK {
				continue
			}
			if !short && s != keyOf(l[at]) {
				t.Fatalf("%v; %d; %d: %q is not the key", l, at, width, text)
			}
			if !short {
				continue
			}
			cut++
			stands, _ := name.Stands(text, l)
			if !slices.Contains(stands, at) {
				t.Fatalf("%v; %d; %d: %q does not stand for it", l, at, width, text)
			}
			for _, i := range stands {
				if keyOf(l[i]) != keyOf(l[at]) {
					t.Fatalf("%v; %d; %d: %q stands for %s", l, at, width, text, l[i])
				}
			}
		}
	}
	if cut < 500 {
		t.Errorf("only %d abbreviations", cut)
	}
}

// TestMoreNames is P3.17: one name more in a list never makes the shortest
// abbreviation have fewer letters.
func TestMoreNames(t *testing.T) {
	d := die{state: 317}
	more := 0
	for range 3000 {
		l := append(d.list(), d.name())
		l = l[max(0, len(l)-5):]
		at := d.throw(len(l))
		before, e := name.Shortest(l, at)
		place := d.throw(len(l) + 1)
		longer := slices.Insert(slices.Clone(l), place, d.alike(l[d.throw(len(l))]))
		if place <= at {
			at++
		}
		after, f := name.Shortest(longer, at)
		if f == api.OK && (e != api.OK || len(after) < len(before)) {
			t.Fatalf("%v: %q, error %d, in %v %q", l, before, e, longer, after)
		}
		if e == api.OK && (f != api.OK || len(after) > len(before)) {
			more++
		}
	}
	if more < 100 {
		t.Errorf("only %d abbreviations became longer", more)
	}
}
