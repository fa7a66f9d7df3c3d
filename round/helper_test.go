package round_test

import (
	"slices"
	"strconv"
	"strings"
	"testing"

	"wayzgoose/api"
	"wayzgoose/round"
)

// numbers returns the numbers of a text, with a space between each two.
func numbers(text string) []int {
	var l []int
	for _, word := range strings.Fields(text) {
		n, _ := strconv.Atoi(word)
		l = append(l, n)
	}
	return l
}

// lists returns lists of numbers with a comma between each two.
func lists(text string) [][]int {
	var l [][]int
	for _, word := range strings.Split(text, ",") {
		if strings.TrimSpace(word) != "" {
			l = append(l, numbers(word))
		}
	}
	return l
}

// ground returns a ground: its Streets, Corner, Knock, Minutes, Days and Tries,
// and for each door its Street, At and Talk.
func ground(head, doors string) api.Ground {
	n := numbers(head)
	g := api.Ground{Streets: n[0], Corner: n[1], Knock: n[2], Minutes: n[3], Days: n[4], Tries: n[5]}
	for _, d := range lists(doors) {
		g.Doors = append(g.Doors, api.Door{Street: d[0], At: d[1], Talk: d[2]})
	}
	return g
}

// exampleG is the ground G of the chapter's examples, exampleL its log L.
func exampleG() api.Ground { return ground("2 4 1 40 3 2", "0 3 5, 0 8 2, 1 5 4, 1 2 6") }

// exampleIn is G with other minutes.
func exampleIn(minutes int) api.Ground {
	g := exampleG()
	g.Minutes = minutes
	return g
}

const exampleL = "0@0 1@0+ 2@1"

// tries returns a log: each try as door@shift, with a + if the door opened.
func tries(text string) []api.Try {
	var l []api.Try
	for _, word := range strings.Fields(text) {
		rest, opened := strings.CutSuffix(word, "+")
		door, shift, _ := strings.Cut(rest, "@")
		t := api.Try{Opened: opened}
		t.Door, _ = strconv.Atoi(door)
		t.Shift, _ = strconv.Atoi(shift)
		l = append(l, t)
	}
	return l
}

// walks returns a plan: each walk as shift: doors, with a comma between each
// two.
func walks(text string) []api.Walk {
	var l []api.Walk
	for _, word := range strings.Split(text, ",") {
		if shift, doors, ok := strings.Cut(word, ":"); ok {
			l = append(l, api.Walk{Shift: numbers(shift)[0], Doors: numbers(doors)})
		}
	}
	return l
}

func sameLists(a, b [][]int) bool { return slices.EqualFunc(a, b, slices.Equal[[]int]) }

func samePlan(a, b []api.Walk) bool {
	return slices.EqualFunc(a, b, func(v, w api.Walk) bool {
		return v.Shift == w.Shift && slices.Equal(v.Doors, w.Doors)
	})
}

func clonePlan(plan []api.Walk) []api.Walk {
	var l []api.Walk
	for _, w := range plan {
		l = append(l, api.Walk{Shift: w.Shift, Doors: slices.Clone(w.Doors)})
	}
	return l
}

// upTo returns the numbers from 0 to n - 1.
func upTo(n int) []int {
	var l []int
	for i := range n {
		l = append(l, i)
	}
	return l
}

// subsets returns all lists of some of the items of an ascending list.
func subsets(l []int) [][]int {
	all := [][]int{nil}
	for _, x := range l {
		for _, s := range slices.Clone(all) {
			all = append(all, append(slices.Clone(s), x))
		}
	}
	return all
}

// orders returns all orders of a list; those of an ascending one are in
// lexicographic order.
func orders(l []int) [][]int {
	if len(l) == 0 {
		return [][]int{nil}
	}
	var all [][]int
	for i, x := range l {
		for _, rest := range orders(slices.Delete(slices.Clone(l), i, i+1)) {
			all = append(all, append([]int{x}, rest...))
		}
	}
	return all
}

// mustBe fails if an error is not the one that is due.
func mustBe(t *testing.T, what string, e, want api.Errno) {
	t.Helper()
	if e != want {
		t.Errorf("%s: error %d, want %d", what, e, want)
	}
}

// die throws numbers that are the same in every run of the tests.
type die struct{ state uint64 }

// throw returns a number from 0 to n - 1.
func (d *die) throw(n int) int {
	d.state = d.state*6364136223846793005 + 1442695040888963407
	return int((d.state >> 33) % uint64(n))
}

// some returns some of the items of a list, in any order.
func (d *die) some(l []int) []int {
	var s []int
	for _, x := range l {
		if d.throw(3) > 0 {
			s = slices.Insert(s, d.throw(len(s)+1), x)
		}
	}
	return s
}

// ground returns a valid ground with at most most doors. More often than not
// each door is a safe walk alone, and all doors together are none.
func (d *die) ground(most int) api.Ground {
	g := api.Ground{Streets: 1 + d.throw(api.MaxStreets), Corner: 1 + d.throw(api.MaxCorner), Knock: 1 + d.throw(api.MaxKnock)}
	g.Days = 1 + d.throw(api.MaxRoundDays)
	g.Tries = 1 + d.throw(g.Days)
	far := []int{4, 10, api.MaxAt + 1}[d.throw(3)]
	for range d.throw(most + 1) {
		g.Doors = append(g.Doors, api.Door{Street: d.throw(g.Streets), At: d.throw(far), Talk: 1 + d.throw(api.MaxTalk)})
	}
	alone := 1
	for i := range g.Doors {
		alone = max(alone, takes(g, []int{i}).High)
	}
	all := takes(g, shortest(g, upTo(len(g.Doors)))).High
	if d.throw(8) == 0 {
		alone -= d.throw(alone)
	}
	g.Minutes = min(api.MaxMinutes, alone+d.throw(max(1, all-alone+4)))
	return g
}

// log returns a valid log of a ground with tries before the shift end.
func (d *die) log(g api.Ground, end int) []api.Try {
	var l []api.Try
	often := 1 + d.throw(5)
	for shift := range end {
		for range len(g.Doors) {
			try := api.Try{Door: d.throw(len(g.Doors)), Shift: shift, Opened: d.throw(4) == 0}
			if d.throw(often) == 0 && logError(g, append(slices.Clone(l), try)) == api.OK {
				l = append(l, try)
			}
		}
	}
	return l
}

// spot is a ground with a log and a shift from which on it can be planned.
type spot struct {
	g    api.Ground
	l    []api.Try
	from int
}

func (d *die) spot(most int) spot {
	s := spot{g: d.ground(most)}
	s.from = d.throw(2 * s.g.Days)
	if d.throw(3) == 0 {
		s.from = 0
	}
	s.l = d.log(s.g, s.from+d.throw(2))
	return s
}

// wild returns a plan for a spot: that of Plan, with some changes.
func (d *die) wild(s spot) []api.Walk {
	given, _ := round.Plan(s.g, s.l, s.from)
	plan := clonePlan(given)
	for range d.throw(4) {
		at := d.throw(len(plan) + 1)
		w := api.Walk{Shift: s.from + d.throw(2*s.g.Days-s.from), Doors: d.some(upTo(len(s.g.Doors)))}
		if len(w.Doors) > 1 && d.throw(2) == 0 {
			w.Doors = w.Doors[:1]
		}
		switch kind := d.throw(5); {
		case kind < 2 || at == len(plan):
			plan = slices.Insert(plan, at, w)
		case kind == 2:
			plan = slices.Delete(plan, at, at+1)
		case kind == 3:
			plan[at].Shift = w.Shift
		case kind == 4:
			moved := plan[at]
			plan = append(slices.Delete(plan, at, at+1), moved)
		}
	}
	return plan
}
