package name_test

import (
	"slices"
	"testing"

	"wayzgoose/api"
	"wayzgoose/name"
)

// TestListErrors is about P3.2 to P3.5: the errors of a list of names, in their
// order, returned by all functions that have one.
func TestListErrors(t *testing.T) {
	for _, c := range []struct {
		l    string
		want api.Errno
	}{
		{"", api.OK},
		{"a b c d e f", api.OK},
		{"a a a A A A", api.OK},
		{"a b c d e f g", api.ErrFull},
		{"none HAT c d e f g", api.ErrFull},
		{"none HAT", api.ErrShort},
		{"HAT none", api.ErrForm},
		{"a chadwik none", api.ErrLong},
		{"a b c d e F1", api.ErrForm},
	} {
		l := names(c.l)
		_, sort := name.Sort(l)
		_, place := name.Place(l, "z")
		_, wrong := name.Wrong(l)
		_, near := name.Near(nil, "a", l)
		_, stands := name.Stands("a.", l)
		for i, e := range []api.Errno{sort, place, wrong, near, stands} {
			if e != c.want {
				t.Errorf("%s: function %d: error %d, want %d", c.l, i, e, c.want)
			}
		}
		_, shortest := name.Shortest(l, 9)
		_, fit := name.Fit(l, -1, 0)
		want := c.want
		if want == api.OK {
			want = api.ErrNoSuch
		}
		mustBe(t, "Shortest of "+c.l, shortest, want)
		mustBe(t, "Fit of "+c.l, fit, want)
	}
}

// TestSort is about P3.2: the order of a list, of the same name the lesser
// index first.
func TestSort(t *testing.T) {
	for _, c := range []struct {
		l    string
		want []int
	}{
		{"chad CAD anna BEN", []int{2, 3, 0, 1}},
		{"", nil},
		{"CAD", []int{0}},
		{"CAD chad CAD chad", []int{1, 3, 0, 2}},
		{"a a a a a a", []int{0, 1, 2, 3, 4, 5}},
		{"Z z Y y X x", []int{2, 4, 5, 3, 1, 0}},
		{"ch C c cha CA", []int{2, 0, 1, 3, 4}},
	} {
		l, e := name.Sort(names(c.l))
		if !slices.Equal(l, c.want) || e != api.OK {
			t.Errorf("%s: %v, error %d, want %v", c.l, l, e, c.want)
		}
	}
}

// TestPlace is about P3.2: the place of a name, and the errors of Place in
// their order.
func TestPlace(t *testing.T) {
	for _, c := range []struct {
		l, name string
		want    int
		e       api.Errno
	}{
		{"anna BEN CAD", "chad", 2, api.OK},
		{"chad anna", "chad", 0, api.ErrOrder},
		{"CAD chad", "anna", 0, api.ErrOrder},
		{"", "chad", 0, api.OK},
		{"chad CAD", "chad", 0, api.OK},
		{"chad CAD", "CAD", 1, api.OK},
		{"chad chad CAD CAD", "CAD", 2, api.OK},
		{"chad chad CAD CAD", "D", 4, api.OK},
		{"a a a", "a", 0, api.OK},
		{"a a a", "A", 3, api.OK},
		{"b c d", "a", 0, api.OK},
		{"b c d", "D", 3, api.OK},
		{"chad anna", "HAT", 0, api.ErrForm},
		{"chad anna", "", 0, api.ErrShort},
		{"chad anna none", "HAT", 0, api.ErrShort},
		{"a", "chadwik", 0, api.ErrLong},
	} {
		n, e := name.Place(names(c.l), c.name)
		if n != c.want || e != c.e {
			t.Errorf("%s; %s: %d, error %d, want %d, error %d", c.l, c.name, n, e, c.want, c.e)
		}
	}
}

// TestSorted is P3.8: the names are in order by the indices of Sort, each index
// is there once, and Place tells how many come before a name.
func TestSorted(t *testing.T) {
	d := die{state: 38}
	for range 3000 {
		l := d.list()
		indices, e := name.Sort(l)
		mustBe(t, "Sort", e, api.OK)
		var sorted []string
		for i, at := range indices {
			sorted = append(sorted, l[at])
			if i > 0 && l[at] == l[indices[i-1]] && at < indices[i-1] {
				t.Fatalf("%v: %v, the greater index first", l, indices)
			}
		}
		once := slices.Sorted(slices.Values(indices))
		if len(slices.Compact(once)) != len(l) || len(indices) != len(l) || !inOrder(sorted) {
			t.Fatalf("%v: %v", l, indices)
		}
		for _, x := range append(sorted, d.name(), d.name()) {
			before := 0
			for _, s := range sorted {
				if compare(s, x) < 0 {
					before++
				}
			}
			if n, e := name.Place(sorted, x); n != before || e != api.OK {
				t.Fatalf("%v; %s: place %d, error %d, want %d", sorted, x, n, e, before)
			}
		}
		if _, e := name.Place(l, "a"); (e == api.OK) != inOrder(l) {
			t.Fatalf("%v: error %d", l, e)
		}
	}
}

// TestWrong is about P3.2: the fewest names that stand at a wrong place.
func TestWrong(t *testing.T) {
	for _, c := range []struct {
		l    string
		want []int
	}{
		{"anna BEN chad CAD", nil},
		{"CAD anna BEN", []int{0}},
		{"", nil},
		{"a", nil},
		{"a a A A", nil},
		{"A a", []int{0}},
		{"b a", []int{0}},
		{"c b a", []int{0, 1}},
		{"b a c", []int{0}},
		{"a c b", []int{1}},
		{"b c a", []int{2}},
		{"a b c d f e", []int{4}},
		{"c d a b", []int{0, 1}},
		{"b a d c", []int{0, 2}},
		{"f e d c b a", []int{0, 1, 2, 3, 4}},
		{"CAD chad CAD chad", []int{0, 2}},
	} {
		l, e := name.Wrong(names(c.l))
		if !slices.Equal(l, c.want) || e != api.OK {
			t.Errorf("%s: %v, error %d, want %v", c.l, l, e, c.want)
		}
	}
}

// TestFewest is P3.9: all lists of indices are gone through, those with fewer
// indices first, then those that come before.
func TestFewest(t *testing.T) {
	d := die{state: 39}
	met := map[int]int{}
	for range 3000 {
		l := d.list()
		at := slices.IndexFunc(subsets(len(l)), func(s []int) bool { return inOrder(without(l, s)) })
		want := subsets(len(l))[at]
		wrong, e := name.Wrong(l)
		if !slices.Equal(wrong, want) || e != api.OK {
			t.Fatalf("%v: %v, error %d, want %v", l, wrong, e, want)
		}
		met[len(wrong)]++
	}
	for n := range 5 {
		if met[n] < 20 {
			t.Errorf("%d wrong names only %d times", n, met[n])
		}
	}
}
