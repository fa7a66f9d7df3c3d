package proof

import (
	"cmp"

	"wayzgoose/api"
)

// What can become of a line. All but stay are kinds of marks, with the numbers
// that they have in package api; stay is the kind of no mark.
const (
	stay = iota
	putIn
	setAnew
	takeOut
)

// checkMarks returns the first error of marks for a page.
func checkMarks(page []string, l []api.Mark) api.Errno {
	var before api.Mark
	return checkAll(l, api.MaxMarks, func(m api.Mark) api.Errno {
		e := cmp.Or(checkKind(m), checkAt(page, m), checkText(m), checkOrder(before, m))
		before = m
		return e
	})
}

func checkKind(m api.Mark) api.Errno {
	if m.Kind < putIn || m.Kind > takeOut {
		return api.ErrKind
	}
	return api.OK
}

func checkAt(page []string, m api.Mark) api.Errno {
	if m.At < 0 || m.At > len(page) || m.At == len(page) && m.Kind != putIn {
		return api.ErrNoSuch
	}
	return api.OK
}

func checkText(m api.Mark) api.Errno {
	switch {
	case m.Kind != takeOut:
		return checkLine(m.Text)
	case m.Text != "":
		return api.ErrForm
	}
	return api.OK
}

// checkOrder returns the error of a mark behind another one, which has the kind
// stay if there is none.
func checkOrder(before, m api.Mark) api.Errno {
	switch {
	case m.At < before.At:
		return api.ErrOrder
	case m.At > before.At || before.Kind == stay || before.Kind == putIn:
		return api.OK
	case m.Kind == putIn:
		return api.ErrOrder
	}
	return api.ErrRepeated
}

// compareMarks compares two marks by their order.
func compareMarks(m, n api.Mark) int {
	return cmp.Or(cmp.Compare(m.At, n.At), cmp.Compare(m.Kind, n.Kind), cmp.Compare(m.Text, n.Text))
}

// costOf returns the cost of marks.
func costOf(l []api.Mark) int {
	n := 0
	for _, m := range l {
		if m.Kind != takeOut {
			n++
		}
	}
	return n
}

// Cost returns the cost of marks.
func Cost(page []string, l []api.Mark) (int, api.Errno) {
	if e := cmp.Or(Check(page), checkMarks(page, l)); e != api.OK {
		return 0, e
	}
	return costOf(l), api.OK
}

// galley is a page that is being made of another one.
type galley struct {
	old   []string // the lines of the other page that are still to come
	lines []string
}

// set puts a line behind the others.
func (g *galley) set(line string) { g.lines = append(g.lines, line) }

// take takes the next line of the other page.
func (g *galley) take() string {
	line := g.old[0]
	g.old = g.old[1:]
	return line
}

// deeds returns what is done by each kind.
func deeds() map[int]func(g *galley, text string) {
	return map[int]func(g *galley, text string){
		stay:    func(g *galley, text string) { g.set(g.take()) },
		putIn:   func(g *galley, text string) { g.set(text) },
		setAnew: func(g *galley, text string) { g.take(); g.set(text) },
		takeOut: func(g *galley, text string) { g.take() },
	}
}

// made returns what valid marks make of a page.
func made(page []string, l []api.Mark) []string {
	g := &galley{old: page}
	do := deeds()
	stayBefore := func(at int) {
		for len(page)-len(g.old) < at {
			do[stay](g, "")
		}
	}
	for _, m := range l {
		stayBefore(m.At)
		do[m.Kind](g, m.Text)
	}
	stayBefore(len(page))
	return g.lines
}

// Apply returns what marks make of a page.
func Apply(page []string, l []api.Mark) ([]string, api.Errno) {
	if e := cmp.Or(Check(page), checkMarks(page, l)); e != api.OK {
		return nil, e
	}
	lines := made(page, l)
	if len(lines) > api.MaxLines {
		return nil, api.ErrFull
	}
	return lines, api.OK
}
