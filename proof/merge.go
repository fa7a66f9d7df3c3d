package proof

import (
	"cmp"
	"slices"

	"wayzgoose/api"
)

// readers is how many readers have marked a page.
const readers = 2

// spot is what the readers have marked at a line.
type spot struct {
	in   [readers][]api.Mark // the marks that put lines in
	line [readers]api.Mark   // the marks that set or take out the line itself
}

// add adds a mark of a reader.
func (s *spot) add(reader int, m api.Mark) {
	if m.Kind == putIn {
		s.in[reader] = append(s.in[reader], m)
	} else {
		s.line[reader] = m
	}
}

// clashes reports whether the readers want two different things of the line.
func (s spot) clashes() bool {
	a, b := s.line[0], s.line[1]
	return a.Kind != stay && b.Kind != stay && a != b
}

// marks returns the marks of both readers together.
func (s spot) marks() []api.Mark {
	l := slices.Clone(s.in[0])
	for _, m := range s.in[1] {
		if !slices.Contains(s.in[0], m) {
			l = append(l, m)
		}
	}
	for _, m := range s.line {
		if m.Kind != stay {
			return append(l, m)
		}
	}
	return l
}

// send returns a channel out of which marks come.
func send(l []api.Mark) <-chan api.Mark {
	marks := make(chan api.Mark)
	go func() {
		defer close(marks)
		for _, m := range l {
			marks <- m
		}
	}()
	return marks
}

// gather returns what two readers have marked at each line of a page and behind
// the last one. It does not matter whose marks come first.
func gather(page []string, a, b []api.Mark) []spot {
	spots := make([]spot, len(page)+1)
	first, second := send(a), send(b)
	for first != nil || second != nil {
		select {
		case m, ok := <-first:
			if !ok {
				first = nil
				continue
			}
			spots[m.At].add(0, m)
		case m, ok := <-second:
			if !ok {
				second = nil
				continue
			}
			spots[m.At].add(1, m)
		}
	}
	return spots
}

// Merge returns the marks of two readers together.
func Merge(page []string, a, b []api.Mark) ([]api.Mark, api.Errno) {
	if e := cmp.Or(Check(page), checkMarks(page, a), checkMarks(page, b)); e != api.OK {
		return nil, e
	}
	spots := gather(page, a, b)
	if slices.ContainsFunc(spots, spot.clashes) {
		return nil, api.ErrClash
	}
	var l []api.Mark
	for _, s := range spots {
		l = append(l, s.marks()...)
	}
	if len(l) > api.MaxMarks {
		return nil, api.ErrFull
	}
	return l, api.OK
}
