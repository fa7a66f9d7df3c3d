package proof_test

import (
	"slices"
	"testing"

	"wayzgoose/api"
	"wayzgoose/proof"
)

// TestStepsExamples is P7.4: the examples of Steps, other ones, and its errors.
func TestStepsExamples(t *testing.T) {
	many := "+0 a, +0 b, +0 c, +0 d, +0 e, -0"
	full := "a, b, c, d, e, f"
	for _, c := range []struct {
		page, l string
		most    int
		want    string
		e       api.Errno
	}{
		{exampleA, "+0 abe, -1, -2", 3, "1 0 2", api.OK},
		{exampleA, "+0 abe, -1, -2", 4, "0 1 2", api.OK},
		{exampleA, "+0 abe, -1, -2", 2, "", api.ErrShut},
		{exampleA, "", 3, "", api.OK},
		{exampleA, "", 2, "", api.ErrShut},
		{"", "", 0, "", api.OK},
		{"", "+0 a", 0, "", api.ErrNone},
		{"", "+0 a", 1, "0", api.OK},
		{exampleA, "+0 a, +0 b, -0, -1, -2", 3, "2 0 3 1 4", api.OK},
		{exampleA, "+0 a, +0 b, -0, -1, -2", 4, "0 2 1 3 4", api.OK},
		{exampleA, "+0 a, =0 b, +1 c, =1 d, -2", 4, "0 1 3 4 2", api.OK},
		{exampleA, "+0 a, =0 b, +1 c, =1 d, -2", 3, "", api.ErrNone},
		{exampleA, "=0 b, =1 d, -2, +3 x", 3, "0 1 2 3", api.OK},
		{exampleA, "+0 a, +3 x, +3 y, +3 z, +3 z", 8, "0 1 2 3 4", api.OK},
		{exampleA, "+0 a, +3 x, +3 y, +3 z, +3 z", 7, "", api.ErrNone},
		// More than MaxLines lines are not too many.
		{full, "+0 g, -0, +1 h", 7, "0 1 2", api.OK},
		{full, "+0 g, +0 h", 1 << 62, "0 1", api.OK},
		{full, "+0 g, -0", 6, "1 0", api.OK},
		{full, "", 5, "", api.ErrShut},
		// The errors in their order.
		{exampleA, "+0 a, +0 b, +0 c, +0 d, +0 e, =9 x", -1, "", api.ErrNoSuch},
		{exampleA, many, -1, "", api.ErrFull},
		{exampleA, many, 2, "", api.ErrFull},
		{exampleA, "-0", -1, "", api.ErrRange},
		{"", "", -1, "", api.ErrRange},
		{"", "+0 a", -1 << 63, "", api.ErrRange},
		{exampleA, "+0 a", 0, "", api.ErrShut},
	} {
		l, e := proof.Steps(lines(c.page), marks(c.l), c.most)
		mustBe(t, c.l, e, c.e)
		mustEqual(t, c.l, l, numbers(c.want))
	}
}

// eachOrder goes through all orders of some numbers, which begin with others, in
// lexicographic order.
func eachOrder(begin, rest []int, do func([]int)) {
	if len(rest) == 0 {
		do(begin)
	}
	for i, n := range rest {
		eachOrder(append(slices.Clone(begin), n), slices.Delete(slices.Clone(rest), i, i+1), do)
	}
}

// fits reports whether a page never has more than most lines if marks are made
// in an order.
func fits(page []string, l []api.Mark, order []int, most int) bool {
	for n := range len(order) + 1 {
		some := slices.Sorted(slices.Values(order[:n]))
		var these []api.Mark
		for _, i := range some {
			these = append(these, l[i])
		}
		if len(made(page, these)) > most {
			return false
		}
	}
	return true
}

// TestSteps is P7.4 and P7.13: by Steps there are never too many lines, and no
// order that comes before is so: all are tried.
func TestSteps(t *testing.T) {
	d := die{state: 4}
	m := met{}
	for range 3000 {
		page := d.page(api.MaxLines)
		l := d.marks(page, 1+d.throw(api.MaxOrder))
		most := len(page) + d.throw(3)
		var all []int
		for i := range l {
			all = append(all, i)
		}
		want, e, some := []int(nil), api.ErrNone, false
		eachOrder(nil, all, func(order []int) {
			if !some && fits(page, l, order, most) {
				want, e, some = order, api.OK, true
			}
		})
		got, f := proof.Steps(page, l, most)
		mustBe(t, "Steps", f, e)
		mustEqual(t, "Steps", got, want)
		switch {
		case e != api.OK:
			m["none"]++
		case slices.IsSorted(want):
			m["as it is"]++
		default:
			m["another order"]++
		}
		if len(l) == api.MaxOrder {
			m["all"]++
		}
	}
	m.mustAll(t, 100, "none", "as it is", "another order", "all")
}
