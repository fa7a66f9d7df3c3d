package trade

import (
	"slices"

	"wayzgoose/api"
)

// heading is what a heading is: a business, a pointer or references.
type heading interface {
	// next returns the headings to which it refers.
	next() []int
	// stays reports whether it remains if these have gone.
	stays(gone set) bool
}

// references is a heading that has nothing but further references.
type references struct{ also []int }

func (r references) next() []int { return r.also }

func (r references) stays(gone set) bool {
	return slices.ContainsFunc(r.also, func(to int) bool { return !gone.has(to) })
}

// pointer is a heading that refers to another one instead.
type pointer struct{ see int }

func (p pointer) next() []int { return []int{p.see} }

func (p pointer) stays(gone set) bool { return !gone.has(p.see) }

// business is a heading that is a trade.
type business struct {
	references
	class int
}

func (b business) stays(set) bool { return true }

// headingOf returns what a valid heading is.
func headingOf(h api.Head) heading {
	if h.See != none {
		return pointer{h.See}
	}
	r := references{h.Also}
	if h.Class != none {
		return business{r, h.Class}
	}
	return r
}

func (l list) isPointer(head int) bool {
	_, ok := l.headings[head].(pointer)
	return ok
}

func (l list) isTrade(head int) bool {
	_, ok := l.headings[head].(business)
	return ok
}

// follow returns where one comes to an end from a heading, and how many
// pointers were left on the way; ok is false if it leads nowhere.
func (l list) follow(head int) (end, steps int, ok bool) {
	end = head
	for steps = range len(l.headings) {
		switch h := l.headings[end].(type) {
		case pointer:
			end = h.see
		case business, references:
			return end, steps, true
		}
	}
	return 0, 0, false
}

// circle returns the pointers of the circle in which a heading is, ascending;
// none if it is in no circle.
func (l list) circle(head int) []int {
	var circle []int
	at := head
	for range l.headings {
		p, ok := l.headings[at].(pointer)
		if !ok {
			return nil
		}
		circle = append(circle, at)
		at = p.see
		if at == head {
			slices.Sort(circle)
			return circle
		}
	}
	return nil
}

// Follow returns the heading at which one comes to an end, and how many
// pointers were left on the way.
func Follow(t api.Trades, head int) (end, steps int, e api.Errno) {
	l, e := beginHead(t, head)
	if e != api.OK {
		return 0, 0, e
	}
	end, steps, ok := l.follow(head)
	if !ok {
		return 0, 0, api.ErrClash
	}
	return end, steps, api.OK
}

// Circles returns all circles.
func Circles(t api.Trades) ([][]int, api.Errno) {
	l, e := begin(t)
	if e != api.OK {
		return nil, e
	}
	var circles [][]int
	for head := range l.headings {
		if c := l.circle(head); len(c) > 0 && c[0] == head {
			circles = append(circles, c)
		}
	}
	return circles, api.OK
}
