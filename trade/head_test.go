package trade_test

import (
	"slices"
	"strings"
	"testing"

	"wayzgoose/api"
	"wayzgoose/trade"
)

// rings are two circles, of which one has a pointer that leads to it.
const rings = "a see c; b see e; c see d; d see a; e see b; f see b"

// exampleCircle are the trades T with bonnets see milliner.
var exampleCircle = strings.Replace(exampleT, "bonnets see hatter", "bonnets see milliner", 1)

// TestFollow is about P4.2: where a heading leads, and by how many pointers.
func TestFollow(t *testing.T) {
	long := "class x; a see b; b see c; c see d; d see e; e see f; f is x"
	for _, c := range []struct {
		t               string
		head, end, many int
		want            api.Errno
	}{
		{exampleT, 5, 3, 2, api.OK},
		{exampleT, 0, 0, 0, api.OK},
		{exampleT, 1, 3, 1, api.OK},
		{exampleT, 4, 4, 0, api.OK},
		{exampleCircle, 5, 0, 0, api.ErrClash},
		{exampleCircle, 1, 0, 0, api.ErrClash},
		{exampleCircle, 3, 3, 0, api.OK},
		{long, 0, 5, 5, api.OK},
		{long, 4, 5, 1, api.OK},
		{long, 5, 5, 0, api.OK},
		{rings, 5, 0, 0, api.ErrClash},
		{rings, 0, 0, 0, api.ErrClash},
		{"a see b; b also a", 0, 1, 1, api.OK},
		{"a see b; b also a", 1, 1, 0, api.OK},
	} {
		end, steps, e := trade.Follow(list(c.t), c.head)
		if end != c.end || steps != c.many || e != c.want {
			t.Errorf("%s, %d: %d, %d, error %d, want %d, %d, error %d", c.t, c.head, end, steps, e, c.end, c.many, c.want)
		}
	}
}

// TestCircles is about P4.2: all circles, in the order of their least pointers.
func TestCircles(t *testing.T) {
	for _, c := range []struct {
		t    string
		want [][]int
	}{
		{exampleT, nil},
		{exampleCircle, [][]int{{1, 5}}},
		{rings, [][]int{{0, 2, 3}, {1, 4}}},
		{"a see f; b see e; c see d; d see c; e see b; f see a", [][]int{{0, 5}, {1, 4}, {2, 3}}},
		{"a see b; b see c; c see d; d see e; e see f; f see a", [][]int{{0, 1, 2, 3, 4, 5}}},
		{"a see b; b also a", nil},
		{"a see b; b see c; c see b", [][]int{{1, 2}}},
		{"a also b; b also a", nil},
		{"", nil},
	} {
		l, e := trade.Circles(list(c.t))
		if !sameLists(l, c.want) || e != api.OK {
			t.Errorf("%s: %v, error %d, want %v", c.t, l, e, c.want)
		}
	}
}

// TestFollowed is P4.11: the heading of Follow is no pointer, and reached in as
// many steps; from one that leads nowhere one never comes to an end.
func TestFollowed(t *testing.T) {
	d := die{state: 411}
	met := map[int]int{}
	for range 5000 {
		given := d.someTrades(6)
		for i := range given.Heads {
			at, steps, e := trade.Follow(given, i)
			if e == api.OK {
				met[steps]++
				if given.Heads[at].See != -1 || end(given, i, steps) != at || steps > 0 && given.Heads[end(given, i, steps-1)].See != at {
					t.Fatalf("%v, %d: %d, %d", given, i, at, steps)
				}
				continue
			}
			met[-1]++
			if e != api.ErrClash || given.Heads[end(given, i, len(given.Heads))].See == -1 {
				t.Fatalf("%v, %d: error %d", given, i, e)
			}
		}
	}
	for n := -1; n < 4; n++ {
		if met[n] < 50 {
			t.Errorf("%d steps only %d times", n, met[n])
		}
	}
}

// TestAllCircles is P4.12: the pointers of a circle come back to themselves,
// and each pointer that does is in one circle.
func TestAllCircles(t *testing.T) {
	d := die{state: 412}
	for range 5000 {
		given := d.trades(6)
		circles, e := trade.Circles(given)
		mustBe(t, "Circles", e, api.OK)
		var want [][]int
		for i := range given.Heads {
			circle, back := []int{i}, given.Heads[i].See
			for range given.Heads {
				if back != -1 && back != i {
					circle = append(circle, back)
					back = given.Heads[back].See
				}
			}
			slices.Sort(circle)
			if back == i && circle[0] == i {
				want = append(want, circle)
			}
		}
		if !sameLists(circles, want) {
			t.Fatalf("%v: %v, want %v", given, circles, want)
		}
	}
}
