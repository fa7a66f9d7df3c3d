package proof_test

import (
	"cmp"
	"fmt"
	"reflect"
	"slices"
	"strings"
	"testing"

	"wayzgoose/api"
	"wayzgoose/proof"
)

// words returns the parts of a text, between which there is a separator.
func words(text, separator string) []string {
	if text == "" {
		return nil
	}
	return strings.Split(text, separator)
}

// lines returns a page: its lines are separated by commas.
func lines(text string) []string { return words(text, ", ") }

// years returns years: their pages are separated by semicolons; a year without
// a line is a stroke.
func years(text string) [][]string {
	var all [][]string
	for _, page := range words(text, "; ") {
		if page == "-" {
			page = ""
		}
		all = append(all, lines(page))
	}
	return all
}

// marks returns marks: they are separated by commas, and look as on a slip.
func marks(text string) []api.Mark {
	var l []api.Mark
	for _, word := range words(text, ", ") {
		m := api.Mark{Kind: map[byte]int{'+': api.MarkIn, '=': api.MarkSet, '-': api.MarkOut}[word[0]]}
		number, line, _ := strings.Cut(word[1:], " ")
		fmt.Sscan(number, &m.At)
		m.Text = line
		l = append(l, m)
	}
	return l
}

// numbers returns the numbers of a text.
func numbers(text string) []int {
	var l []int
	for _, word := range strings.Fields(text) {
		n := 0
		fmt.Sscan(word, &n)
		l = append(l, n)
	}
	return l
}

// exampleA is the page A of the chapter's examples, exampleM are the marks M,
// exampleY are the years Y.
const (
	exampleA = "anna, ben, cyd"
	exampleM = "+1 bea, =2 cid"
	exampleY = "anna, ben; anna, cyd"
)

// mustBe fails if an error is not the one that is due.
func mustBe(t *testing.T, what string, e, want api.Errno) {
	t.Helper()
	if e != want {
		t.Errorf("%s: error %d, want %d", what, e, want)
	}
}

// mustEqual fails if a list is not the one that is due.
func mustEqual[T comparable](t *testing.T, what string, l, want []T) {
	t.Helper()
	if !slices.Equal(l, want) {
		t.Errorf("%s: %v, want %v", what, l, want)
	}
}

// isZero reports whether a value is the zero value, or an empty slice.
func isZero(x any) bool {
	v := reflect.ValueOf(x)
	return v.IsZero() || v.Kind() == reflect.Slice && v.Len() == 0
}

// made returns what marks make of a page, spot by spot, as the terms say it.
func made(page []string, l []api.Mark) []string {
	var all []string
	for at := range len(page) + 1 {
		rest := page[at:min(at+1, len(page))]
		for _, m := range l {
			switch {
			case m.At != at:
			case m.Kind == api.MarkIn:
				all = append(all, m.Text)
			case m.Kind == api.MarkSet:
				rest = []string{m.Text}
			case m.Kind == api.MarkOut:
				rest = nil
			}
		}
		all = append(all, rest...)
	}
	return all
}

// count returns how many marks have one of some kinds.
func count(l []api.Mark, kinds ...int) int {
	n := 0
	for _, m := range l {
		if slices.Contains(kinds, m.Kind) {
			n++
		}
	}
	return n
}

// costOf returns the cost of marks.
func costOf(l []api.Mark) int { return count(l, api.MarkIn, api.MarkSet) }

// compareMarks compares two marks by their order.
func compareMarks(a, b api.Mark) int {
	if a.At != b.At {
		return a.At - b.At
	}
	if a.Kind != b.Kind {
		return a.Kind - b.Kind
	}
	return strings.Compare(a.Text, b.Text)
}

// compareLists compares two lists of marks: the better one is less.
func compareLists(a, b []api.Mark) int {
	return cmp.Or(costOf(a)-costOf(b), len(a)-len(b), slices.CompareFunc(a, b, compareMarks))
}

// diff returns the marks of Diff for two valid pages.
func diff(t *testing.T, old, page []string) []api.Mark {
	t.Helper()
	l, e := proof.Diff(old, page)
	mustBe(t, "Diff", e, api.OK)
	return l
}

// howOften returns how often a page has a line.
func howOften(page []string, line string) int {
	n := 0
	for _, x := range page {
		if x == line {
			n++
		}
	}
	return n
}

// isIn reports whether a page is what remains of another one without some of its
// lines.
func isIn(few, many []string) bool {
	for _, x := range few {
		at := slices.Index(many, x)
		if at < 0 {
			return false
		}
		many = many[at+1:]
	}
	return true
}
