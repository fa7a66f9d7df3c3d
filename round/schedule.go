package round

import (
	"cmp"
	"sync"

	"wayzgoose/api"
)

// schedule is the shifts on which each door is tried: none for a door that is
// done or left out.
type schedule [api.MaxDoors]shifts

// on returns the doors that are tried on a shift.
func (s schedule) on(shift int) doors {
	var all doors
	for d, tried := range s {
		if tried.has(shift) {
			all = all.with(d)
		}
	}
	return all
}

// compare compares the lists of shifts of the first door at which two
// schedules differ.
func (s schedule) compare(t schedule) int {
	for d := range s {
		if s[d] != t[d] {
			return s[d].compare(t[d])
		}
	}
	return 0
}

// cost is the greatest number of walks of a shift, and how many walks there
// are altogether.
type cost struct{ most, all int }

func (c cost) compare(d cost) int {
	return cmp.Or(cmp.Compare(c.most, d.most), cmp.Compare(c.all, d.all))
}

// planner seeks schedules for the doors of a record.
type planner struct {
	*record
	groups map[roll][]doors // of the walks of each set of doors that has some
}

func newPlanner(r *record) *planner {
	p := &planner{record: r, groups: map[roll][]doors{}}
	for s := range doors(1) << len(r.Doors) {
		if groups, ok := r.divide(s); ok {
			p.groups[s.roll()] = groups
		}
	}
	return p
}

// cost returns the cost of a schedule, also of one to which doors will be
// added.
func (p *planner) cost(s schedule) cost {
	var c cost
	for shift := range maxShifts {
		n := len(p.groups[s.on(shift).roll()])
		c.most = max(c.most, n)
		c.all += n
	}
	return c
}

// compare compares two schedules; the better one is less.
func (p *planner) compare(s, t schedule) int {
	return cmp.Or(p.cost(s).compare(p.cost(t)), s.compare(t))
}

// errand is a door, and the lists of shifts on which it can be tried.
type errand struct {
	door    int
	options []shifts
}

// enough reports whether so many canvassers are enough for some doors from a
// shift on.
func (p *planner) enough(s doors, from, canvassers int) bool {
	best, ok := p.best(s, from)
	return ok && p.cost(best).most <= canvassers
}

// best returns the best schedule for some doors from a shift on, and false if
// there is none.
func (p *planner) best(s doors, from int) (schedule, bool) {
	var errands []errand
	for _, d := range list(s) {
		r := errand{d, p.options(d, from)}
		if len(r.options) == 0 || !p.safe(doors(0).with(d)) {
			return schedule{}, false
		}
		errands = append(errands, r)
	}
	if len(errands) == 0 {
		return schedule{}, true
	}
	return least(p.tryAll(errands), p.compare), true
}

// tryAll returns a closed channel with the best schedule for each list of
// shifts of the first errand.
func (p *planner) tryAll(errands []errand) <-chan schedule {
	first := errands[0]
	found := make(chan schedule, len(first.options))
	var wait sync.WaitGroup
	for _, s := range first.options {
		wait.Add(1)
		go func() {
			defer wait.Done()
			t := &trial{planner: p, errands: errands[1:]}
			t.try(first.door, s, 0)
			found <- t.found
		}()
	}
	wait.Wait()
	close(found)
	return found
}

// least returns what is less than all else that comes out of a closed channel,
// which has something.
func least[T any](found <-chan T, compare func(a, b T) int) T {
	best := <-found
	for x := range found {
		if compare(x, best) < 0 {
			best = x
		}
	}
	return best
}

// trial goes through schedules in lexicographic order.
type trial struct {
	*planner
	errands []errand
	now     schedule
	found   schedule // the best one
	price   cost     // of found
	some    bool     // whether there is one
}

// grow tries all lists of shifts of the errands from the one with the index at
// on.
func (t *trial) grow(at int) {
	now := t.cost(t.now)
	// A door more never needs fewer walks, and of equally good schedules the
	// one that was found first comes first.
	if t.some && now.compare(t.price) >= 0 {
		return
	}
	if at == len(t.errands) {
		t.found, t.price, t.some = t.now, now, true
		return
	}
	for _, s := range t.errands[at].options {
		t.try(t.errands[at].door, s, at+1)
	}
}

// try tries a door on some shifts, with all that can be done at the errands
// from the one with the index next on.
func (t *trial) try(door int, s shifts, next int) {
	t.now[door] = s
	defer t.takeBack(door)
	t.grow(next)
}

func (t *trial) takeBack(door int) { t.now[door] = 0 }
