package trade_test

import (
	"slices"
	"strings"
	"testing"

	"wayzgoose/api"
	"wayzgoose/trade"
)

// alike are headings that begin alike: a pointer in a circle, headings that
// lead to no trade, and some that lead to the same one.
const alike = "class x; aa see ab; ab see aa; ac also b; ad see ac; b is x; ba see b"

// TestMay is about P4.5: the trades that a beginning means.
func TestMay(t *testing.T) {
	for _, c := range []struct {
		t, beginning string
		want         []int
	}{
		{exampleT, "b", []int{0, 3}},
		{exampleT, "m", []int{3, 4}},
		{exampleT, "bo", []int{3}},
		{exampleT, "", []int{0, 2, 3, 4}},
		{exampleT, "x", nil},
		{exampleT, "baker", []int{0}},
		{exampleT, "bakers", nil},
		{exampleT, "B", nil},
		{exampleT, "aker", nil},
		{exampleT, "b\x00", nil},
		{exampleT, strings.Repeat("b", 99), nil},
		{alike, "a", nil},
		{alike, "ac", nil},
		{alike, "b", []int{4}},
		{alike, "", []int{4}},
		{"", "", nil},
	} {
		l, e := trade.May(list(c.t), c.beginning)
		if !slices.Equal(l, c.want) || e != api.OK {
			t.Errorf("%s, %q: %v, error %d, want %v", c.t, c.beginning, l, e, c.want)
		}
	}
}

// TestMeans is about P4.5: whether a beginning means a trade, and the errors of
// Means in their order.
func TestMeans(t *testing.T) {
	for _, c := range []struct {
		t, beginning string
		head, want   int
		e            api.Errno
	}{
		{exampleT, "b", 0, api.Open, api.OK},
		{exampleT, "b", 3, api.Open, api.OK},
		{exampleT, "b", 2, api.Out, api.OK},
		{exampleT, "bo", 3, api.Sure, api.OK},
		{exampleT, "bo", 0, api.Out, api.OK},
		{exampleT, "x", 3, api.Out, api.OK},
		{exampleT, "mi", 3, api.Sure, api.OK},
		{exampleT, "", 4, api.Open, api.OK},
		{exampleT, "b", 1, 0, api.ErrKind},
		{exampleT, "b", 6, 0, api.ErrNoSuch},
		{alike, "ac", 2, 0, api.ErrKind},
		{alike, "", 4, api.Sure, api.OK},
		{alike, "a", 4, api.Out, api.OK},
	} {
		n, e := trade.Means(list(c.t), c.beginning, c.head)
		if n != c.want || e != c.e {
			t.Errorf("%s, %q %d: %d, error %d, want %d, error %d", c.t, c.beginning, c.head, n, e, c.want, c.e)
		}
	}
}

// TestShort is about P4.5: the shortest beginning that means just one trade.
func TestShort(t *testing.T) {
	for _, c := range []struct {
		t    string
		head int
		want string
		e    api.Errno
	}{
		{exampleT, 1, "bo", api.OK},
		{exampleT, 5, "mi", api.OK},
		{exampleT, 3, "h", api.OK},
		{exampleT, 0, "ba", api.OK},
		{exampleT, 2, "c", api.OK},
		{exampleT, 4, "me", api.OK},
		{"class x; a is x", 0, "", api.OK},
		{alike, 0, "", api.OK},
		{"a also b; b also a", 0, "", api.ErrNone},
		{"a see b; b see a", 1, "", api.ErrNone},
		{"class x; a is x; ab is x; abc is x", 0, "", api.ErrNone},
		{"class x; a is x; ab is x; abc is x", 1, "", api.ErrNone},
		{"class x; a is x; ab is x; abc is x", 2, "abc", api.OK},
		// The heading leads to no trade, but a beginning means another one.
		{"class x; aa also ab; ab is x; ba is x", 0, "a", api.OK},
		{"class x; aa also ab; ab also aa; ba is x; bb is x", 0, "", api.ErrNone},
		{"class x; aa see ab; ab is x; ac is x", 0, "aa", api.OK},
		{"class x; aaaaaaaaaaaa is x; aaaaaaaaaaab is x", 0, "aaaaaaaaaaaa", api.OK},
	} {
		s, e := trade.Short(list(c.t), c.head)
		if s != c.want || e != c.e {
			t.Errorf("%s, %d: %q, error %d, want %q, error %d", c.t, c.head, s, e, c.want, c.e)
		}
	}
}

// TestBeginnings is P4.16: a longer beginning means no other trades, a
// beginning those to which its headings lead, the empty one all.
func TestBeginnings(t *testing.T) {
	d := die{state: 416}
	for range 2000 {
		given := d.trades(6)
		var all []int
		for i := range given.Heads {
			if isTrade(given, i) {
				all = append(all, i)
			}
		}
		if l, e := trade.May(given, ""); !slices.Equal(l, all) || e != api.OK {
			t.Fatalf("%v: %v, error %d, want %v", given, l, e, all)
		}
		for _, h := range given.Heads {
			before := all
			for n := range len(h.Word) + 1 {
				l, e := trade.May(given, h.Word[:n])
				if want := meant(given, h.Word[:n]); !slices.Equal(l, want) || e != api.OK {
					t.Fatalf("%v, %q: %v, error %d, want %v", given, h.Word[:n], l, e, want)
				}
				for _, i := range l {
					if !slices.Contains(before, i) {
						t.Fatalf("%v, %q: %v, a shorter one %v", given, h.Word[:n], l, before)
					}
				}
				checkMeans(t, given, h.Word[:n], l)
				before = l
			}
		}
	}
}

// checkMeans is about P4.5: the verdicts of all headings for a beginning that
// means the trades of l.
func checkMeans(t *testing.T, given api.Trades, beginning string, l []int) {
	t.Helper()
	for i := range given.Heads {
		want, due := api.Out, api.OK
		switch {
		case !isTrade(given, i):
			want, due = 0, api.ErrKind
		case slices.Equal(l, []int{i}):
			want = api.Sure
		case slices.Contains(l, i):
			want = api.Open
		}
		if n, e := trade.Means(given, beginning, i); n != want || e != due {
			t.Fatalf("%v, %q %d: %d, error %d, want %d", given, beginning, i, n, e, want)
		}
	}
}

// TestShortest is P4.17: the beginning of Short means just one trade, that to
// which the heading leads; no shorter one means just one.
func TestShortest(t *testing.T) {
	d := die{state: 417}
	met := map[int]int{}
	for range 3000 {
		given := d.someTrades(6)
		for i, h := range given.Heads {
			s, e := trade.Short(given, i)
			if e == api.OK && !strings.HasPrefix(h.Word, s) {
				t.Fatalf("%v, %d: %q", given, i, s)
			}
			if e == api.OK {
				l := meant(given, s)
				at := end(given, i, len(given.Heads))
				if len(l) != 1 || isTrade(given, at) && l[0] != at {
					t.Fatalf("%v, %d: %q means %v", given, i, s, l)
				}
				met[len(s)]++
			}
			shorter := len(s)
			if e == api.ErrNone {
				shorter = len(h.Word) + 1
				met[-1]++
			}
			for n := range shorter {
				if len(meant(given, h.Word[:n])) == 1 {
					t.Fatalf("%v, %d: %q, error %d", given, i, s, e)
				}
			}
		}
	}
	for n := -1; n < 4; n++ {
		if met[n] < 20 {
			t.Errorf("%d letters only %d times", n, met[n])
		}
	}
}
