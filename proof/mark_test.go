package proof_test

import (
	"slices"
	"strings"
	"testing"

	"wayzgoose/api"
	"wayzgoose/proof"
)

// badLine is a line that is not valid, and its error.
type badLine struct {
	line string
	want api.Errno
}

func badLines() []badLine {
	return []badLine{
		{"", api.ErrShort},
		{"abcdefghijk", api.ErrLong},
		{"           ", api.ErrLong},
		{"Abcdefghijk", api.ErrLong},
		{strings.Repeat("é", 6), api.ErrLong},
		{" ", api.ErrForm},
		{" ben", api.ErrForm},
		{"ben ", api.ErrForm},
		{"Anna", api.ErrForm},
		{"annA", api.ErrForm},
		{"an-na", api.ErrForm},
		{"`", api.ErrForm},
		{"{", api.ErrForm},
		{"/", api.ErrForm},
		{":", api.ErrForm},
		{"a\tb", api.ErrForm},
		{"a\n", api.ErrForm},
		{"a\x00b", api.ErrForm},
		{"é", api.ErrForm},
		{"\xff", api.ErrForm},
	}
}

// TestCheck is P7.1: the errors of a page, and the examples of Check.
func TestCheck(t *testing.T) {
	six := slices.Repeat([]string{"a"}, api.MaxLines)
	for _, page := range [][]string{nil, lines(exampleA), {"a"}, {"z"}, {"0"}, {"9"}, {"a  b"}, {"0123456789"}, {"a", "a"}, six} {
		mustBe(t, strings.Join(page, ", "), proof.Check(page), api.OK)
	}
	for _, c := range badLines() {
		mustBe(t, c.line, proof.Check([]string{c.line}), c.want)
		mustBe(t, "the second one: "+c.line, proof.Check([]string{"a", c.line, "", "A"}), c.want)
		mustBe(t, "the last one: "+c.line, proof.Check(append(slices.Clone(six[1:]), c.line)), c.want)
		mustBe(t, "one of seven: "+c.line, proof.Check(append([]string{c.line}, six...)), api.ErrFull)
	}
	mustBe(t, "seven lines", proof.Check(append([]string{"a"}, six...)), api.ErrFull)
}

// badMarks is a page with marks that are not valid for it, and their error.
type badMarks struct {
	what string
	page string
	l    []api.Mark
	want api.Errno
}

func allBadMarks() []badMarks {
	mark := func(kind, at int, text string) []api.Mark { return []api.Mark{{Kind: kind, At: at, Text: text}} }
	out := mark(api.MarkOut, 0, "x")
	all := []badMarks{
		{"13 marks", "", slices.Repeat(mark(api.MarkIn, 0, "a"), 13), api.ErrFull},
		{"13 marks that are no marks", "a", make([]api.Mark, 13), api.ErrFull},
		{"the kind 0", "a", mark(0, 0, "a"), api.ErrKind},
		{"the kind -1, and no such line", "a", mark(-1, 9, "a"), api.ErrKind},
		{"the kind 4, no such line, and no line", "a", mark(4, -1, ""), api.ErrKind},
		{"in before the first line", "a", mark(api.MarkIn, -1, "a"), api.ErrNoSuch},
		{"in too far behind, and no line", "a", mark(api.MarkIn, 2, ""), api.ErrNoSuch},
		{"set behind the last line", "a", marks("=1 x"), api.ErrNoSuch},
		{"set before the first line", "a", mark(api.MarkSet, -1, "x"), api.ErrNoSuch},
		{"out of no page, with a text", "", out, api.ErrNoSuch},
		{"out behind the last line", exampleA, marks("-3"), api.ErrNoSuch},
		{"out before the first line", exampleA, mark(api.MarkOut, -1, ""), api.ErrNoSuch},
		{"out with a text", "a", out, api.ErrForm},
		{"out with a long text", "a", mark(api.MarkOut, 0, "abcdefghijk"), api.ErrForm},
		{"a text, and a wrong order", "a, b", append(marks("-1"), out...), api.ErrForm},
		{"a text, and a line twice", "a, b", append(marks("-0"), out...), api.ErrForm},
		{"a line less", exampleA, marks("+1 x, +0 x"), api.ErrOrder},
		{"a line less, behind others", exampleA, marks("-0, -2, =1 x"), api.ErrOrder},
		{"a line less, and the same", exampleA, marks("-0, -1, -0"), api.ErrOrder},
		{"set twice", exampleA, marks("=1 x, =1 y"), api.ErrRepeated},
		{"set twice to the same", exampleA, marks("=1 x, =1 x"), api.ErrRepeated},
		{"out twice", exampleA, marks("-2, -2"), api.ErrRepeated},
		{"set and out", exampleA, marks("+0 a, =0 x, -0"), api.ErrRepeated},
		{"out and set", exampleA, marks("-0, =0 x"), api.ErrRepeated},
		{"in behind set", exampleA, marks("=1 x, +1 y"), api.ErrOrder},
		{"in behind out", exampleA, marks("-1, +1 y"), api.ErrOrder},
		{"the first one first", exampleA, append(marks("=1 x, +1 y, -2"), mark(9, 9, "")...), api.ErrOrder},
		{"the kind of the second one", exampleA, append(marks("=1 x"), mark(9, 9, "")...), api.ErrKind},
		{"no such line, and a wrong order", exampleA, append(marks("=1 x"), mark(api.MarkIn, -1, "x")...), api.ErrNoSuch},
	}
	for _, c := range badLines() {
		all = append(all,
			badMarks{"in: " + c.line, "a", mark(api.MarkIn, 1, c.line), c.want},
			badMarks{"set: " + c.line, "a, b", append(marks("=1 x"), mark(api.MarkSet, 0, c.line)...), c.want},
		)
	}
	return all
}

// TestBadMarks is P7.1: the errors of marks, those of the page first, in all
// functions that have them.
func TestBadMarks(t *testing.T) {
	for _, c := range allBadMarks() {
		for _, page := range [][]string{lines(c.page), {"A"}, {""}, make([]string, 7)} {
			want := proof.Check(page)
			if want == api.OK {
				want = c.want
			}
			_, e := proof.Apply(page, c.l)
			mustBe(t, "Apply: "+c.what, e, want)
			_, e = proof.Cost(page, c.l)
			mustBe(t, "Cost: "+c.what, e, want)
			_, e = proof.Merge(page, c.l, make([]api.Mark, 13))
			mustBe(t, "Merge, the first ones: "+c.what, e, want)
			_, e = proof.Merge(page, nil, c.l)
			mustBe(t, "Merge, the second ones: "+c.what, e, want)
			_, e = proof.Steps(page, c.l, -1)
			mustBe(t, "Steps: "+c.what, e, want)
			_, e = proof.Look([][]string{{"a"}, page}, c.l, []string{"A"})
			mustBe(t, "Look: "+c.what, e, want)
		}
	}
}

// TestApply is P7.1: the examples of Apply and Cost, and other ones.
func TestApply(t *testing.T) {
	six := "a, b, c, d, e, f"
	for _, c := range []struct {
		page, l, want string
		cost          int
		e             api.Errno
	}{
		{exampleA, exampleM, "anna, bea, ben, cid", 2, api.OK},
		{exampleA, "-0", "ben, cyd", 0, api.OK},
		{exampleA, "", exampleA, 0, api.OK},
		{"", "", "", 0, api.OK},
		{"", "+0 b, +0 a, +0 b", "b, a, b", 3, api.OK},
		{exampleA, "+3 dan", "anna, ben, cyd, dan", 1, api.OK},
		{exampleA, "-0, -1, -2", "", 0, api.OK},
		{exampleA, "-0, -1, -2, +3 x", "x", 1, api.OK},
		{exampleA, "+0 x, +0 y, =0 z, +1 x, -1, +3 x", "x, y, z, x, cyd, x", 5, api.OK},
		{exampleA, "=0 anna", exampleA, 1, api.OK},
		{exampleA, "=0 ben, =1 anna", "ben, anna, cyd", 2, api.OK},
		{six, "=0 z, =5 y", "z, b, c, d, e, y", 2, api.OK},
		{six, "+6 g, -0", "", 0, api.ErrOrder},
		{six, "+6 g", "", 1, api.ErrFull},
		{six, "-0, +6 g", "b, c, d, e, f, g", 1, api.OK},
		{six, "-0, +6 g, +6 h", "", 2, api.ErrFull},
		{six, "+0 a, -0, +1 b, -1, +2 c, -2, +3 d, -3, +4 e, -4, +5 f, -5", six, 6, api.OK},
		{"", "+0 a, +0 a, +0 a, +0 a, +0 a, +0 a", "a, a, a, a, a, a", 6, api.OK},
		{"", "+0 a, +0 a, +0 a, +0 a, +0 a, +0 a, +0 a", "", 7, api.ErrFull},
	} {
		l, e := proof.Apply(lines(c.page), marks(c.l))
		mustBe(t, "Apply: "+c.l, e, c.e)
		mustEqual(t, "Apply: "+c.l, l, lines(c.want))
		n, e := proof.Cost(lines(c.page), marks(c.l))
		// To the cost it does not matter how many lines there would be.
		if c.e == api.ErrFull {
			c.e = api.OK
		}
		mustBe(t, "Cost: "+c.l, e, c.e)
		if n != c.cost {
			t.Errorf("Cost: %s: %d, want %d", c.l, n, c.cost)
		}
	}
}

// TestApplyThrown is P7.1 and P7.12: marks make of a page what the terms say, and
// add as many lines as they put in, less those that they take out.
func TestApplyThrown(t *testing.T) {
	d := die{state: 1}
	m := met{}
	for range 20000 {
		page := d.page(api.MaxLines)
		l := d.marks(page, api.MaxMarks)
		many := len(page) + count(l, api.MarkIn) - count(l, api.MarkOut)
		got, e := proof.Apply(page, l)
		n, f := proof.Cost(page, l)
		mustBe(t, "Cost", f, api.OK)
		if n != costOf(l) {
			t.Errorf("%q, %v: the cost %d", page, l, n)
		}
		if len(l) == api.MaxMarks {
			m["all marks"]++
		}
		if many > api.MaxLines {
			mustBe(t, "Apply", e, api.ErrFull)
			m["full"]++
			continue
		}
		mustBe(t, "Apply", e, api.OK)
		mustEqual(t, "Apply", got, made(page, l))
		if len(got) != many {
			t.Errorf("%q, %v: %d lines, want %d", page, l, len(got), many)
		}
		m["made"]++
	}
	m.mustAll(t, 100, "full", "made", "all marks")
}
