package proof_test

import (
	"slices"
	"testing"

	"wayzgoose/api"
	"wayzgoose/proof"
)

// TestMergeExamples is P7.2: the examples of Merge, and other ones.
func TestMergeExamples(t *testing.T) {
	twelve := "+0 a, +0 b, +0 c, +0 d, +0 e, +0 f, +0 g, +0 h, +0 i, +0 j, +0 k, +0 l"
	eleven := "+0 a, +0 b, +0 c, +0 d, +0 e, +0 f, +0 g, +0 h, +0 i, +0 j, +0 k"
	for _, c := range []struct {
		a, b, want string
		e          api.Errno
	}{
		{"=2 cid", exampleM, exampleM, api.OK},
		{exampleM, "=2 cid", exampleM, api.OK},
		{"=2 cid", "-2", "", api.ErrClash},
		{"-2", "=2 cid", "", api.ErrClash},
		{"=2 cid", "=2 cad", "", api.ErrClash},
		{"=2 cid", "=2 cid", "=2 cid", api.OK},
		{"-2", "-2", "-2", api.OK},
		{"", "", "", api.OK},
		{exampleM, "", exampleM, api.OK},
		{"", exampleM, exampleM, api.OK},
		// At each line: those of a that put lines in, those of b, and the line.
		{"+1 x, -1", "+1 y", "+1 x, +1 y, -1", api.OK},
		{"+1 y", "+1 x, -1", "+1 y, +1 x, -1", api.OK},
		{"+1 z, +1 y", "+1 x, +1 w, =1 v", "+1 z, +1 y, +1 x, +1 w, =1 v", api.OK},
		{"+3 z", "+0 x, -2, +3 y", "+0 x, -2, +3 z, +3 y", api.OK},
		{"-0, -2", "+0 x, -1, +3 y", "+0 x, -0, -1, -2, +3 y", api.OK},
		// What a puts in at a line, b does not put in there again.
		{"+1 x, +1 y", "+1 y, +1 z, +1 x", "+1 x, +1 y, +1 z", api.OK},
		{"+1 x", "+1 x, +1 x, +1 y, +1 y", "+1 x, +1 y, +1 y", api.OK},
		{"+1 x, +1 x", "+1 x", "+1 x, +1 x", api.OK},
		{"", "+1 x, +1 x", "+1 x, +1 x", api.OK},
		{"+1 x", "+2 x", "+1 x, +2 x", api.OK},
		{"=1 x", "+1 x", "+1 x, =1 x", api.OK},
		{"+1 x", "=1 x", "+1 x, =1 x", api.OK},
		// Full slips.
		{twelve, twelve, twelve, api.OK},
		{twelve, "+0 l, +0 a", twelve, api.OK},
		{eleven, "+0 l", twelve, api.OK},
		{twelve, "+0 m", "", api.ErrFull},
		{twelve, "-0", "", api.ErrFull},
		{eleven, "+0 k, -0, -1", "", api.ErrFull},
		{twelve + ", =2 x", "", "", api.ErrFull},
		{eleven + ", =2 x", "+0 l, =2 y", "", api.ErrClash},
	} {
		l, e := proof.Merge(lines(exampleA), marks(c.a), marks(c.b))
		what := c.a + " and " + c.b
		mustBe(t, what, e, c.e)
		mustEqual(t, what, l, marks(c.want))
	}
}

// merged returns the marks of two readers together, as P7.2 says it, and the
// error if there is one.
func merged(page []string, a, b []api.Mark) ([]api.Mark, api.Errno) {
	var l []api.Mark
	for at := range len(page) + 1 {
		of := func(from []api.Mark, in bool) []api.Mark {
			return slices.DeleteFunc(slices.Clone(from), func(m api.Mark) bool {
				return m.At != at || (m.Kind == api.MarkIn) != in
			})
		}
		l = append(l, of(a, true)...)
		for _, m := range of(b, true) {
			if !slices.ContainsFunc(of(a, true), func(n api.Mark) bool { return n.Text == m.Text }) {
				l = append(l, m)
			}
		}
		both := slices.Compact(append(of(a, false), of(b, false)...))
		if len(both) == 2 {
			return nil, api.ErrClash
		}
		l = append(l, both...)
	}
	if len(l) > api.MaxMarks {
		return nil, api.ErrFull
	}
	return l, api.OK
}

// TestMerge is P7.2 and P7.11: a slip that is merged with itself, or with an
// empty one, is itself; of two slips merged each mark is there, and no other
// one; if no two of their marks have the same At the order in which they are
// merged does not matter.
func TestMerge(t *testing.T) {
	d := die{state: 2}
	m := met{}
	for range 20000 {
		page := d.page(api.MaxLines)
		a, b := d.marks(page, 1+d.throw(12)), d.marks(page, 1+d.throw(12))
		itself, e := proof.Merge(page, a, a)
		mustBe(t, "with itself", e, api.OK)
		mustEqual(t, "with itself", itself, a)
		itself, _ = proof.Merge(page, a, nil)
		mustEqual(t, "with an empty one", itself, a)
		itself, _ = proof.Merge(page, nil, a)
		mustEqual(t, "an empty one with it", itself, a)

		l, e := proof.Merge(page, a, b)
		want, f := merged(page, a, b)
		mustBe(t, "Merge", e, f)
		mustEqual(t, "Merge", l, want)
		apart := !slices.ContainsFunc(a, func(x api.Mark) bool {
			return slices.ContainsFunc(b, func(y api.Mark) bool { return x.At == y.At })
		})
		if apart {
			other, f := proof.Merge(page, b, a)
			mustBe(t, "Merge the other way round", f, e)
			mustEqual(t, "Merge the other way round", other, l)
			m["apart"]++
		}
		m[e.Error()]++
		if e != api.OK {
			continue
		}
		both := slices.Concat(a, b)
		for _, x := range both {
			if !slices.Contains(l, x) {
				t.Errorf("%v and %v: %v, %v is missing", a, b, l, x)
			}
		}
		for _, x := range l {
			if !slices.Contains(both, x) {
				t.Errorf("%v and %v: %v, %v is too much", a, b, l, x)
			}
		}
		_, e = proof.Cost(page, l)
		mustBe(t, "Cost of what is merged", e, api.OK)
	}
	m.mustAll(t, 100, "apart", api.OK.Error(), api.ErrClash.Error(), api.ErrFull.Error())
}
