package round_test

import (
	"cmp"
	"slices"

	"wayzgoose/api"
)

// What is in this file follows the words of the chapter one by one, and tries
// all that there is.

func distance(a, b int) int { return max(a-b, b-a) }

// way returns the minutes between two doors; -1 is the office.
func way(g api.Ground, a, b int) int {
	var from, to api.Door
	if a >= 0 {
		from = g.Doors[a]
	}
	if b >= 0 {
		to = g.Doors[b]
	}
	if from.Street == to.Street {
		return distance(from.At, to.At)
	}
	return from.At + to.At + g.Corner*distance(from.Street, to.Street)
}

// waysOf returns the minutes of the ways of a walk.
func waysOf(g api.Ground, walk []int) int {
	at, minutes := -1, 0
	for _, d := range walk {
		minutes += way(g, at, d)
		at = d
	}
	return minutes + way(g, at, -1)
}

func takes(g api.Ground, walk []int) api.Span {
	low := waysOf(g, walk) + len(walk)*g.Knock
	high := low
	for _, d := range walk {
		high += g.Doors[d].Talk
	}
	return api.Span{Low: low, High: high}
}

func safe(g api.Ground, walk []int) bool { return takes(g, walk).High <= g.Minutes }

func shortest(g api.Ground, doors []int) []int {
	var best []int
	for _, order := range orders(slices.Sorted(slices.Values(doors))) {
		if best == nil || waysOf(g, order) < waysOf(g, best) {
			best = order
		}
	}
	return best
}

// divisions returns all divisions of an ascending list into groups, the groups
// in the order of their least items. Of two divisions the first one has the
// first item with another group in the group with the lesser number.
func divisions(l []int) [][][]int {
	if len(l) == 0 {
		return [][][]int{nil}
	}
	last := l[len(l)-1]
	var all [][][]int
	for _, groups := range divisions(l[:len(l)-1]) {
		for i := range len(groups) + 1 {
			next := make([][]int, max(len(groups), i+1))
			for j := range groups {
				next[j] = slices.Clone(groups[j])
			}
			next[i] = append(next[i], last)
			all = append(all, next)
		}
	}
	return all
}

// walksOf returns the walks of a set of doors, and false if there are none.
func walksOf(g api.Ground, doors []int) ([][]int, bool) {
	var best [][]int
	found := false
	for _, groups := range divisions(slices.Sorted(slices.Values(doors))) {
		ok := true
		for i := range groups {
			groups[i] = shortest(g, groups[i])
			ok = ok && safe(g, groups[i])
		}
		if ok && (!found || len(groups) < len(best)) {
			best, found = groups, true
		}
	}
	return best, found
}

// triesOf returns the shifts of the tries of a door.
func triesOf(l []api.Try, door int) []int {
	var shifts []int
	for _, t := range l {
		if t.Door == door {
			shifts = append(shifts, t.Shift)
		}
	}
	return shifts
}

// met reports whether tries on these shifts meet the rule.
func met(g api.Ground, shifts []int) bool {
	morning, evening := false, false
	for _, shift := range shifts {
		morning = morning || shift%2 == 0
		evening = evening || shift%2 == 1
	}
	return len(shifts) >= g.Tries && (g.Tries < 2 || morning && evening)
}

func isDone(g api.Ground, l []api.Try, door int) bool {
	for _, t := range l {
		if t.Door == door && t.Opened {
			return true
		}
	}
	return met(g, triesOf(l, door))
}

// doneOf returns the doors that are done, and those that are not.
func doneOf(g api.Ground, l []api.Try) (done, open []int) {
	for d := range g.Doors {
		if isDone(g, l, d) {
			done = append(done, d)
		} else {
			open = append(open, d)
		}
	}
	return done, open
}

// logError returns the first error of a log of a valid ground.
func logError(g api.Ground, l []api.Try) api.Errno {
	for i, t := range l {
		before := l[:i]
		if t.Door < 0 || t.Door >= len(g.Doors) || t.Shift < 0 || t.Shift >= 2*g.Days {
			return api.ErrNoSuch
		}
		if i > 0 && t.Shift < before[i-1].Shift {
			return api.ErrOrder
		}
		for _, shift := range triesOf(before, t.Door) {
			if shift/2 == t.Shift/2 {
				return api.ErrRepeated
			}
		}
		if isDone(g, before, t.Door) {
			return api.ErrShut
		}
	}
	return api.OK
}

// dueOf returns what is due at a door that is not done: the fewest further
// tries, each in a morning or in an evening, are looked for.
func dueOf(g api.Ground, l []api.Try, door int) api.Due {
	due := api.Due{Door: door}
	for choices := [][]int{nil}; ; due.Tries++ {
		due.Morning, due.Evening = true, true
		some := false
		for _, c := range choices {
			if met(g, append(triesOf(l, door), c...)) {
				some = true
				due.Morning = due.Morning && slices.Contains(c, 0)
				due.Evening = due.Evening && slices.Contains(c, 1)
			}
		}
		if some {
			return due
		}
		var longer [][]int
		for _, c := range choices {
			longer = append(longer, append(slices.Clone(c), 0), append(slices.Clone(c), 1))
		}
		choices = longer
	}
}

// shiftsFor returns all lists of shifts on which a door can be tried in a
// schedule, in lexicographic order.
func shiftsFor(s spot, door int) [][]int {
	due := dueOf(s.g, s.l, door)
	var all [][]int
	for _, l := range subsets(upTo(2 * s.g.Days)[s.from:]) {
		ok, morning, evening := len(l) == due.Tries, false, false
		days := triesOf(s.l, door)
		for _, shift := range l {
			ok = ok && !slices.ContainsFunc(days, func(x int) bool { return x/2 == shift/2 })
			days = append(days, shift)
			morning = morning || shift%2 == 0
			evening = evening || shift%2 == 1
		}
		if ok && (morning || !due.Morning) && (evening || !due.Evening) {
			all = append(all, l)
		}
	}
	slices.SortFunc(all, slices.Compare[[]int])
	return all
}

// lostOf returns the doors that are lost.
func lostOf(s spot) []int {
	var lost []int
	for d := range s.g.Doors {
		if !isDone(s.g, s.l, d) && len(shiftsFor(s, d)) == 0 || !safe(s.g, []int{d}) {
			lost = append(lost, d)
		}
	}
	return lost
}

// best is the best schedule, if there is one.
type best struct {
	ok        bool
	most, all int
	lists     [][]int // of each door of the schedule
}

// bestOf returns the best schedule for some doors that are not done: all
// schedules are tried.
func bestOf(s spot, doors []int) best {
	count := map[[api.MaxDoors]bool]int{}
	for _, l := range subsets(doors) {
		var key [api.MaxDoors]bool
		for _, d := range l {
			key[d] = true
		}
		if groups, ok := walksOf(s.g, l); ok {
			count[key] = len(groups)
		} else {
			return best{}
		}
	}
	var b best
	lists := make([][]int, len(doors))
	var options [][][]int
	for _, d := range doors {
		options = append(options, shiftsFor(s, d))
	}
	var try func(at int)
	try = func(at int) {
		if at < len(doors) {
			for _, lists[at] = range options[at] {
				try(at + 1)
			}
			return
		}
		var on [2 * api.MaxRoundDays][api.MaxDoors]bool
		for i, l := range lists {
			for _, shift := range l {
				on[shift][doors[i]] = true
			}
		}
		n := best{ok: true}
		for _, key := range on {
			n.most = max(n.most, count[key])
			n.all += count[key]
		}
		if !b.ok || cmp.Or(cmp.Compare(n.most, b.most), cmp.Compare(n.all, b.all)) < 0 {
			b = n
			b.lists = slices.Clone(lists)
		}
	}
	try(0)
	return b
}

// planOf returns the walks of a schedule for some doors.
func planOf(s spot, doors []int, b best) []api.Walk {
	var plan []api.Walk
	for shift := range 2 * s.g.Days {
		var on []int
		for i, l := range b.lists {
			if slices.Contains(l, shift) {
				on = append(on, doors[i])
			}
		}
		groups, _ := walksOf(s.g, on)
		for _, l := range groups {
			plan = append(plan, api.Walk{Shift: shift, Doors: l})
		}
	}
	return plan
}

// enoughFor reports whether so many canvassers are enough for some doors.
func enoughFor(s spot, doors []int, canvassers int) bool {
	b := bestOf(s, doors)
	return b.ok && b.most <= canvassers
}

// servesOf reports whether a plan is enough, whatever doors stay shut.
func servesOf(s spot, canvassers int, plan []api.Walk) bool {
	l := slices.Clone(s.l)
	for shift := range 2 * s.g.Days {
		walks := 0
		for _, w := range plan {
			if w.Shift != shift {
				continue
			}
			walks++
			if !safe(s.g, w.Doors) || walks > canvassers {
				return false
			}
			for _, d := range w.Doors {
				sameDay := func(x int) bool { return x/2 == shift/2 }
				if isDone(s.g, l, d) || slices.ContainsFunc(triesOf(l, d), sameDay) {
					return false
				}
				l = append(l, api.Try{Door: d, Shift: shift})
			}
		}
	}
	_, open := doneOf(s.g, l)
	return len(open) == 0
}
