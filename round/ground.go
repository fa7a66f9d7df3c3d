// Package round is layer 2: it plans the rounds of canvassers, who try doors
// by a rule (shared/doc/02-round.md).
package round

import "wayzgoose/api"

// office is the number of the office among the doors.
const office = -1

// ground is a valid ground at work.
type ground struct {
	api.Ground
	ways [api.MaxDoors + 1][api.MaxDoors + 1]int // the office first, then the doors
}

// Check returns the first error of a ground, otherwise OK.
func Check(g api.Ground) api.Errno {
	if !within(g.Streets, 1, api.MaxStreets) || !within(g.Corner, 1, api.MaxCorner) ||
		!within(g.Knock, 1, api.MaxKnock) || !within(g.Minutes, 1, api.MaxMinutes) ||
		!within(g.Days, 1, api.MaxRoundDays) || !within(g.Tries, 1, g.Days) {
		return api.ErrRange
	}
	if len(g.Doors) > api.MaxDoors {
		return api.ErrFull
	}
	for _, d := range g.Doors {
		if !within(d.Street, 0, g.Streets-1) {
			return api.ErrNoSuch
		}
		if !within(d.At, 0, api.MaxAt) || !within(d.Talk, 1, api.MaxTalk) {
			return api.ErrRange
		}
	}
	return api.OK
}

func within(n, low, high int) bool { return n >= low && n <= high }

// begin returns a ground at work, or its first error.
func begin(given api.Ground) (*ground, api.Errno) {
	if e := Check(given); e != api.OK {
		return nil, e
	}
	g := &ground{Ground: given}
	for a := office; a < len(g.Doors); a++ {
		for b := office; b < len(g.Doors); b++ {
			g.ways[a+1][b+1] = g.minutes(g.spot(a), g.spot(b))
		}
	}
	return g, api.OK
}

// spot returns where a door or the office is.
func (g *ground) spot(door int) api.Door {
	if door == office {
		return api.Door{Street: 0, At: 0}
	}
	return g.Doors[door]
}

// minutes returns how long the way between two spots takes.
func (g *ground) minutes(a, b api.Door) int {
	if a.Street == b.Street {
		return distance(a.At, b.At)
	}
	return a.At + g.Corner*distance(a.Street, b.Street) + b.At
}

func distance(a, b int) int { return max(a-b, b-a) }

// way returns the minutes of the way between two doors or the office.
func (g *ground) way(a, b int) int { return g.ways[a+1][b+1] }

func (g *ground) isDoor(n int) bool { return within(n, 0, len(g.Doors)-1) }

func (g *ground) isShift(n int) bool { return within(n, 0, 2*g.Days-1) }

// set returns the set of the doors of a list, or the first error of the list.
func (g *ground) set(list []int) (doors, api.Errno) {
	var s doors
	for _, d := range list {
		if !g.isDoor(d) {
			return 0, api.ErrNoSuch
		}
		if s.has(d) {
			return 0, api.ErrRepeated
		}
		s = s.with(d)
	}
	return s, api.OK
}

// beginWith returns a ground at work and the set of the doors of a list, or the
// first error.
func beginWith(given api.Ground, list []int) (*ground, doors, api.Errno) {
	g, e := begin(given)
	if e != api.OK {
		return nil, 0, e
	}
	s, e := g.set(list)
	if e != api.OK {
		return nil, 0, e
	}
	return g, s, api.OK
}

// Way returns the minutes of the way between two doors, of which -1 is the
// office.
func Way(g api.Ground, a, b int) (int, api.Errno) {
	w, e := begin(g)
	if e != api.OK {
		return 0, e
	}
	if a != office && !w.isDoor(a) || b != office && !w.isDoor(b) {
		return 0, api.ErrNoSuch
	}
	return w.way(a, b), api.OK
}
