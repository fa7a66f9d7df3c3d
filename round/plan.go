package round

import (
	"cmp"
	"slices"

	"wayzgoose/api"
)

// checkCanvassers returns the error of a number of canvassers.
func checkCanvassers(n int) api.Errno {
	if !within(n, 0, api.MaxDoors) {
		return api.ErrRange
	}
	return api.OK
}

// bestFrom returns the best schedule from a shift on, and the planner that
// found it, or the first error.
func bestFrom(g api.Ground, l []api.Try, from int) (*planner, schedule, api.Errno) {
	r, e := readFrom(g, l, from)
	if e != api.OK {
		return nil, schedule{}, e
	}
	p := newPlanner(r)
	best, ok := p.best(r.open(), from)
	if !ok {
		return nil, schedule{}, api.ErrNone
	}
	return p, best, api.OK
}

// Fewest returns how many canvassers are enough, whatever doors stay shut.
func Fewest(g api.Ground, l []api.Try, from int) (int, api.Errno) {
	p, best, e := bestFrom(g, l, from)
	if e != api.OK {
		return 0, e
	}
	return p.cost(best).most, api.OK
}

// Plan returns the walks of the best schedule.
func Plan(g api.Ground, l []api.Try, from int) ([]api.Walk, api.Errno) {
	p, best, e := bestFrom(g, l, from)
	if e != api.OK {
		return nil, e
	}
	var plan []api.Walk
	for shift := range maxShifts {
		for _, group := range p.groups[best.on(shift).roll()] {
			plan = append(plan, api.Walk{Shift: shift, Doors: p.shortest(group)})
		}
	}
	return plan, api.OK
}

// Latest returns the last shift from which on so many canvassers are enough.
func Latest(g api.Ground, l []api.Try, canvassers int) (int, api.Errno) {
	r, e := read(g, l)
	if e != api.OK {
		return 0, e
	}
	if e := checkCanvassers(canvassers); e != api.OK {
		return 0, e
	}
	p := newPlanner(r)
	for from := 2*r.Days - 1; from >= r.last; from-- {
		if p.enough(r.open(), from, canvassers) {
			return from, api.OK
		}
	}
	return 0, api.ErrNone
}

// Leave returns the fewest doors that have to be left out so that so many
// canvassers are enough for the others.
func Leave(g api.Ground, l []api.Try, from, canvassers int) ([]int, api.Errno) {
	r, e := readFrom(g, l, from)
	if e != api.OK {
		return nil, e
	}
	if e := checkCanvassers(canvassers); e != api.OK {
		return nil, e
	}
	p := newPlanner(r)
	for _, left := range choices(r.open()) {
		if p.enough(r.open()&^left, from, canvassers) {
			return list(left), api.OK
		}
	}
	// Not reached: without any door no canvasser is needed.
	return nil, api.ErrNone
}

// choices returns all sets of some of the doors, those of the fewest doors
// first, those of as many in the lexicographic order of their lists.
func choices(s doors) []doors {
	var all []doors
	for t := range s + 1 {
		if t&^s == 0 {
			all = append(all, t)
		}
	}
	slices.SortFunc(all, func(a, b doors) int {
		return cmp.Or(cmp.Compare(a.count(), b.count()), slices.Compare(list(a), list(b)))
	})
	return all
}

// Serves reports whether a plan is enough, whatever doors stay shut.
func Serves(g api.Ground, l []api.Try, from, canvassers int, plan []api.Walk) (bool, api.Errno) {
	r, e := readFrom(g, l, from)
	if e != api.OK {
		return false, e
	}
	if e := checkCanvassers(canvassers); e != api.OK {
		return false, e
	}
	for _, w := range plan {
		if w.Shift < from || !r.isShift(w.Shift) {
			return false, api.ErrNoSuch
		}
		if _, e := r.set(w.Doors); e != api.OK {
			return false, e
		}
	}
	return r.canWalk(canvassers, plan) && r.walked(plan) && r.open() == 0, api.OK
}

// canWalk reports whether so many canvassers can walk a plan in time.
func (r *record) canWalk(canvassers int, plan []api.Walk) bool {
	var walks [maxShifts]int
	for _, w := range plan {
		walks[w.Shift]++
		if walks[w.Shift] > canvassers || r.safety(w.Doors) != api.Sure {
			return false
		}
	}
	return true
}

// walked adds the tries of a plan to a record, as if no door opened, and
// reports whether all of them can be made.
func (r *record) walked(plan []api.Walk) bool {
	inOrder := slices.SortedStableFunc(slices.Values(plan), func(a, b api.Walk) int {
		return cmp.Compare(a.Shift, b.Shift)
	})
	for _, w := range inOrder {
		for _, d := range w.Doors {
			if r.add(api.Try{Door: d, Shift: w.Shift}) != api.OK {
				return false
			}
		}
	}
	return true
}
