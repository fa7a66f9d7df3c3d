package round

import (
	"slices"

	"wayzgoose/api"
)

// rule is what has to be so of the tries of a door that stays shut until it is
// done.
type rule struct {
	often, morning, evening func(shifts) bool
}

func newRule(g *ground) rule {
	r := rule{often: func(tried shifts) bool { return tried.count() >= g.Tries }}
	if g.Tries >= 2 {
		r.morning, r.evening = shifts.morning, shifts.evening
		return r
	}
	r.morning = func(shifts) bool { return true }
	r.evening = r.morning
	return r
}

func (r rule) met(tried shifts) bool {
	return r.often(tried) && r.morning(tried) && r.evening(tried)
}

// record is a valid ground with a valid log.
type record struct {
	*ground
	rule   rule
	tried  [api.MaxDoors]shifts // of each door
	opened doors
	last   int // the shift of the last try
}

// read returns the record of a log, or the first error of the ground and the
// log.
func read(g api.Ground, l []api.Try) (*record, api.Errno) {
	w, e := begin(g)
	if e != api.OK {
		return nil, e
	}
	r := &record{ground: w, rule: newRule(w)}
	for _, t := range l {
		if e := r.add(t); e != api.OK {
			return nil, e
		}
	}
	return r, api.OK
}

// add adds a try, or returns its first error.
func (r *record) add(t api.Try) api.Errno {
	if !r.isDoor(t.Door) || !r.isShift(t.Shift) {
		return api.ErrNoSuch
	}
	if t.Shift < r.last {
		return api.ErrOrder
	}
	on := shifts(0).with(t.Shift)
	if r.tried[t.Door].days()&on.days() != 0 {
		return api.ErrRepeated
	}
	if r.done(t.Door) {
		return api.ErrShut
	}
	r.tried[t.Door] |= on
	r.last = t.Shift
	if t.Opened {
		r.opened = r.opened.with(t.Door)
	}
	return api.OK
}

func (r *record) done(door int) bool { return r.opened.has(door) || r.rule.met(r.tried[door]) }

// open returns the doors that are not done.
func (r *record) open() doors {
	var s doors
	for d := range r.Doors {
		if !r.done(d) {
			s = s.with(d)
		}
	}
	return s
}

// due returns what is due at a door that is not done.
func (r *record) due(door int) api.Due {
	tried := r.tried[door]
	due := api.Due{Door: door, Morning: !r.rule.morning(tried), Evening: !r.rule.evening(tried)}
	times := 0
	if due.Morning {
		times++
	}
	if due.Evening {
		times++
	}
	due.Tries = max(times, r.Tries-tried.count())
	return due
}

// options returns the lists of shifts from this one on on which a door can be
// tried as is due, in lexicographic order.
func (r *record) options(door, from int) []shifts {
	tried, tries := r.tried[door], r.due(door).Tries
	var l []shifts
	for s := range shifts(1) << (2 * r.Days) {
		apart := (tried | s).days().count() == tried.count()+s.count()
		if s.from(from) && s.count() == tries && apart && r.rule.met(tried|s) {
			l = append(l, s)
		}
	}
	slices.SortFunc(l, shifts.compare)
	return l
}

// checkFrom returns the error of a shift from which on doors are tried.
func (r *record) checkFrom(from int) api.Errno {
	if !r.isShift(from) {
		return api.ErrNoSuch
	}
	if from < r.last {
		return api.ErrOrder
	}
	return api.OK
}

// readFrom returns the record of a log before a shift, or the first error.
func readFrom(g api.Ground, l []api.Try, from int) (*record, api.Errno) {
	r, e := read(g, l)
	if e != api.OK {
		return nil, e
	}
	if e := r.checkFrom(from); e != api.OK {
		return nil, e
	}
	return r, api.OK
}

// Log returns the first error of a log, otherwise OK.
func Log(g api.Ground, l []api.Try) api.Errno {
	_, e := read(g, l)
	return e
}

// Done returns all doors that are done.
func Done(g api.Ground, l []api.Try) ([]int, api.Errno) {
	r, e := read(g, l)
	if e != api.OK {
		return nil, e
	}
	var all []int
	for d := range r.Doors {
		if r.done(d) {
			all = append(all, d)
		}
	}
	return all, api.OK
}

// Due returns what is due at each door that is not done.
func Due(g api.Ground, l []api.Try) ([]api.Due, api.Errno) {
	r, e := read(g, l)
	if e != api.OK {
		return nil, e
	}
	var all []api.Due
	for _, d := range list(r.open()) {
		all = append(all, r.due(d))
	}
	return all, api.OK
}

// Lost returns all doors that can't be tried as often as is due any more, and
// all that are no safe walk alone, which may be done.
func Lost(g api.Ground, l []api.Try, from int) ([]int, api.Errno) {
	r, e := readFrom(g, l, from)
	if e != api.OK {
		return nil, e
	}
	var all []int
	for d := range r.Doors {
		if !r.safe(doors(0).with(d)) || !r.done(d) && len(r.options(d, from)) == 0 {
			all = append(all, d)
		}
	}
	return all, api.OK
}

// After returns a log with the tries of a walk after its own.
func After(g api.Ground, l []api.Try, shift int, walk, opened []int) ([]api.Try, api.Errno) {
	r, e := readFrom(g, l, shift)
	if e != api.OK {
		return nil, e
	}
	if _, e := r.set(walk); e != api.OK {
		return nil, e
	}
	for i, d := range opened {
		if !slices.Contains(walk, d) {
			return nil, api.ErrNoSuch
		}
		if slices.Contains(opened[:i], d) {
			return nil, api.ErrRepeated
		}
	}
	after := slices.Clone(l)
	for _, d := range walk {
		t := api.Try{Door: d, Shift: shift, Opened: slices.Contains(opened, d)}
		if e := r.add(t); e != api.OK {
			return nil, e
		}
		after = append(after, t)
	}
	return after, api.OK
}
