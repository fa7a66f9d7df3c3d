package round_test

import (
	"slices"
	"testing"

	"wayzgoose/api"
	"wayzgoose/round"
)

// TestTakesAndSafe is about P2.1.
func TestTakesAndSafe(t *testing.T) {
	for _, c := range []struct {
		g         api.Ground
		walk      string
		low, high int
		safe      int
	}{
		{exampleG(), "0 1", 18, 25, api.Sure},
		{exampleG(), "0 1 2 3", 38, 55, api.Open},
		{exampleG(), "0 2 1 3", 56, 73, api.Out},
		{exampleG(), "", 0, 0, api.Sure},
		{exampleG(), "0", 7, 12, api.Sure},
		{exampleG(), "2", 19, 23, api.Sure},
		{exampleIn(25), "0 1", 18, 25, api.Sure},
		{exampleIn(24), "0 1", 18, 25, api.Open},
		{exampleIn(18), "0 1", 18, 25, api.Open},
		{exampleIn(17), "0 1", 18, 25, api.Out},
		{exampleIn(1), "", 0, 0, api.Sure},
		{exampleIn(1), "0", 7, 12, api.Out},
	} {
		s, e := round.Takes(c.g, numbers(c.walk))
		v, f := round.Safe(c.g, numbers(c.walk))
		if e != api.OK || f != api.OK || s != (api.Span{Low: c.low, High: c.high}) || v != c.safe {
			t.Errorf("%v, %s: %v, verdict %d, errors %d %d", c.g, c.walk, s, v, e, f)
		}
	}
}

// TestShortest is about P2.1.
func TestShortest(t *testing.T) {
	for _, c := range []struct {
		g           api.Ground
		doors, want string
	}{
		{exampleG(), "3 1", "1 3"},
		{exampleG(), "3 2 1 0", "0 1 2 3"},
		{exampleG(), "", ""},
		{exampleG(), "2", "2"},
		{ground("1 1 1 90 1 1", "0 9 1, 0 5 1, 0 7 1"), "0 1 2", "0 2 1"},
		{ground("1 1 1 90 1 1", "0 5 1, 0 9 1, 0 7 1"), "0 1 2", "0 1 2"},
		{ground("1 1 1 90 1 1", "0 5 1, 0 7 1, 0 9 1, 0 6 1"), "2 3 1 0", "0 1 2 3"},
		{ground("2 1 1 90 1 1", "0 5 1, 1 7 1, 0 9 1"), "0 1 2", "0 2 1"},
		{ground("2 1 1 90 1 1", "1 5 1, 0 7 1, 1 9 1"), "0 1 2", "0 2 1"},
		{ground("3 1 1 90 1 1", "1 0 1, 0 0 1, 2 0 1"), "2 1 0", "0 2 1"},
		{ground("3 2 1 90 1 1", "2 4 1, 0 3 1, 1 2 1, 2 1 1, 0 5 1"), "0 1 2 3 4", "0 3 2 1 4"},
	} {
		if l, e := round.Shortest(c.g, numbers(c.doors)); e != api.OK || !slices.Equal(l, numbers(c.want)) {
			t.Errorf("%v, %s: %v, error %d, want %s", c.g, c.doors, l, e, c.want)
		}
	}
}

// TestShortestWalk is P2.7: all orders are tried.
func TestShortestWalk(t *testing.T) {
	d := die{state: 7}
	for range 400 {
		g := d.ground(api.MaxDoors)
		doors := d.some(upTo(len(g.Doors)))
		l, e := round.Shortest(g, doors)
		if e != api.OK || !slices.Equal(l, shortest(g, doors)) {
			t.Fatalf("%v, %v: %v, error %d", g, doors, l, e)
		}
		least, _ := round.Takes(g, l)
		for _, order := range orders(slices.Sorted(slices.Values(doors))) {
			s, _ := round.Takes(g, order)
			if s.Low < least.Low || s.Low == least.Low && slices.Compare(order, l) < 0 {
				t.Fatalf("%v: %v is not the shortest walk, %v is", g, l, order)
			}
		}
	}
}

// TestAsItMayCome is P2.8.
func TestAsItMayCome(t *testing.T) {
	d := die{state: 8}
	met := map[int]bool{}
	for range 600 {
		g := d.ground(api.MaxDoors)
		walk := d.some(upTo(len(g.Doors)))
		span, e := round.Takes(g, walk)
		verdict, f := round.Safe(g, walk)
		if e != api.OK || f != api.OK {
			t.Fatalf("%v, %v: errors %d %d", g, walk, e, f)
		}
		low, high, inTime, late := false, false, false, false
		for _, opened := range subsets(walk) {
			minutes := waysOf(g, walk) + len(walk)*g.Knock
			for _, o := range opened {
				minutes += g.Doors[o].Talk
			}
			if minutes < span.Low || minutes > span.High {
				t.Fatalf("%v, %v: %d minutes, not of %v", g, walk, minutes, span)
			}
			low = low || minutes == span.Low
			high = high || minutes == span.High
			inTime = inTime || minutes <= g.Minutes
			late = late || minutes > g.Minutes
		}
		if !low || !high {
			t.Fatalf("%v, %v: an end of %v is not reached", g, walk, span)
		}
		want := api.Open
		if !late {
			want = api.Sure
		} else if !inTime {
			want = api.Out
		}
		if verdict != want {
			t.Fatalf("%v, %v: verdict %d, want %d", g, walk, verdict, want)
		}
		met[verdict] = true
	}
	if len(met) != 3 {
		t.Errorf("only the verdicts %v", met)
	}
}

// TestWalks is about P2.2; "!" stands for ErrNone.
func TestWalks(t *testing.T) {
	// Of these doors any two are a safe walk, and three are none.
	pairs := ground("1 1 1 13 1 1", "0 1 4, 0 1 4, 0 1 4, 0 1 4, 0 1 4")
	for _, c := range []struct {
		g           api.Ground
		doors, want string
	}{
		{exampleG(), "3 2 1 0", "0 1, 2 3"},
		{exampleG(), "1 2", "1, 2"},
		{exampleG(), "2 1", "1, 2"},
		{exampleG(), "", ""},
		{exampleG(), "1", "1"},
		{exampleIn(20), "2", "!"},
		{exampleIn(20), "0 3 2 1", "!"},
		{exampleIn(20), "0 1", "0, 1"},
		{exampleIn(20), "", ""},
		{exampleIn(23), "2", "2"},
		{exampleIn(22), "2", "!"},
		{exampleIn(55), "0 1 2 3", "0 1 2 3"},
		{exampleIn(54), "0 1 2 3", "0 1 2, 3"},
		{exampleIn(25), "0 1", "0 1"},
		{exampleIn(24), "0 1", "0, 1"},
		{pairs, "0 1", "0 1"},
		{pairs, "0 1 2", "0 1, 2"},
		{pairs, "4 2 0 1 3", "0 1, 2 3, 4"},
		{pairs, "4 3 1", "1 3, 4"},
		{ground("1 1 1 18 1 1", "0 4 3, 0 4 3, 0 4 5, 0 4 5"), "0 1 2 3", "0 2, 1 3"},
		{ground("1 1 1 19 1 1", "0 4 8, 0 4 1, 0 4 8, 0 4 1"), "0 1 2 3", "0 1, 2 3"},
		{ground("2 1 1 22 1 1", "1 9 1, 0 9 1, 0 8 1, 0 7 1"), "0 1 2 3", "0, 1 2, 3"},
	} {
		l, e := round.Walks(c.g, numbers(c.doors))
		want := api.OK
		var due [][]int
		if c.want == "!" {
			want = api.ErrNone
		} else {
			due = lists(c.want)
		}
		if e != want || !sameLists(l, due) {
			t.Errorf("%v, %s: %v, error %d, want %s", c.g, c.doors, l, e, c.want)
		}
	}
}

// TestFewestWalks is P2.9: all divisions are tried.
func TestFewestWalks(t *testing.T) {
	d := die{state: 9}
	sizes := map[int]int{}
	for range 600 {
		g := d.ground(api.MaxDoors)
		doors := d.some(upTo(len(g.Doors)))
		want, ok := walksOf(g, doors)
		l, e := round.Walks(g, doors)
		if !ok {
			mustBe(t, "a door that is no safe walk", e, api.ErrNone)
			if len(l) > 0 {
				t.Fatalf("%v, %v: %v with an error", g, doors, l)
			}
			sizes[-1]++
			continue
		}
		if e != api.OK || !sameLists(l, want) {
			t.Fatalf("%v, %v: %v, error %d, want %v", g, doors, l, e, want)
		}
		sizes[len(l)]++
		var all []int
		for _, walk := range l {
			if v, _ := round.Safe(g, walk); v != api.Sure {
				t.Fatalf("%v: %v is not safe", g, walk)
			}
			all = append(all, walk...)
		}
		slices.Sort(all)
		if !slices.Equal(all, slices.Sorted(slices.Values(doors))) {
			t.Fatalf("%v, %v: %v has not each door once", g, doors, l)
		}
	}
	for n := -1; n <= 4; n++ {
		if sizes[n] == 0 {
			t.Errorf("nothing with %d walks", n)
		}
	}
}

// TestAnyOrder is P2.2: the order of the doors does not matter.
func TestAnyOrder(t *testing.T) {
	d := die{state: 22}
	for range 100 {
		g := d.ground(4)
		want, e := round.Walks(g, upTo(len(g.Doors)))
		walk, f := round.Shortest(g, upTo(len(g.Doors)))
		for _, order := range orders(upTo(len(g.Doors))) {
			l, h := round.Walks(g, order)
			one, i := round.Shortest(g, order)
			if h != e || i != f || !sameLists(l, want) || !slices.Equal(one, walk) {
				t.Fatalf("%v, %v: %v and %v, want %v and %v", g, order, l, one, want, walk)
			}
		}
	}
}

// TestToAndFro is P2.10.
func TestToAndFro(t *testing.T) {
	d := die{state: 10}
	for range 400 {
		g := d.ground(api.MaxDoors)
		walk := d.some(upTo(len(g.Doors)))
		there, e := round.Takes(g, walk)
		back := slices.Clone(walk)
		slices.Reverse(back)
		if s, f := round.Takes(g, back); e != api.OK || f != api.OK || s != there {
			t.Fatalf("%v, %v: %v there, %v back", g, walk, there, s)
		}
		for i := range walk {
			s, e := round.Takes(g, slices.Delete(slices.Clone(walk), i, i+1))
			if e != api.OK || s.Low > there.Low || s.High > there.High {
				t.Fatalf("%v, %v: %v, without the door %d %v", g, walk, there, walk[i], s)
			}
		}
	}
}
