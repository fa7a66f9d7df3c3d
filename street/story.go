package street

import (
	"iter"
	"slices"

	"wayzgoose/api"
)

// tale is a valid story at work.
type tale struct {
	api.Story
	houses []api.Place // of its first plan, in their order
}

// truth is a way for each step, the plan after all its changes, and what each
// house of the first plan becomes. While it grows it has fewer steps.
type truth struct {
	ways []int
	end  api.Plan
	fate course
}

// checkStory returns the first error of a story, otherwise OK.
func checkStory(s api.Story) api.Errno {
	if e := Check(s.First); e != api.OK {
		return e
	}
	if len(s.Steps) > api.MaxSteps {
		return api.ErrFull
	}
	for _, step := range s.Steps {
		if e := checkStep(step); e != api.OK {
			return e
		}
	}
	if len(s.Facts) > api.MaxFacts {
		return api.ErrFull
	}
	for _, f := range s.Facts {
		if !isHouse(s.First, f.From) || !isStreet(s.First, f.To.Street) {
			return api.ErrNoSuch
		}
		if !plate(f.To.Plate).valid() {
			return api.ErrRange
		}
	}
	return api.OK
}

// checkStep returns the first error of a step.
func checkStep(step api.Step) api.Errno {
	if len(step.Ways) == 0 {
		return api.ErrShort
	}
	if len(step.Ways) > api.MaxWays {
		return api.ErrFull
	}
	for _, c := range step.Ways {
		if !isKind(c.Kind) {
			return api.ErrKind
		}
	}
	return api.OK
}

// begin returns a story at work, or its first error.
func begin(s api.Story) (tale, api.Errno) {
	if e := checkStory(s); e != api.OK {
		return tale{}, e
	}
	return tale{Story: s, houses: houses(s.First)}, api.OK
}

// truths goes through all truths in lexicographic order.
func (t tale) truths() iter.Seq[truth] {
	return func(yield func(truth) bool) {
		var grow func(truth) bool
		grow = func(u truth) bool {
			if len(u.ways) == len(t.Steps) {
				return !t.allows(u) || yield(u)
			}
			for way, c := range t.Steps[len(u.ways)].Ways {
				m, e := follow(u.end, c)
				if e == api.OK && !grow(t.next(u, way, m)) {
					return false
				}
			}
			return true
		}
		grow(t.start())
	}
}

// start returns the truth of no step.
func (t tale) start() truth {
	fate := course{}
	for _, h := range t.houses {
		fate[h] = []api.Place{h}
	}
	return truth{end: clonePlan(t.First), fate: fate}
}

// next returns a truth that has one step more.
func (t tale) next(u truth, way int, m course) truth {
	fate := course{}
	for _, h := range t.houses {
		var l []api.Place
		for _, x := range u.fate[h] {
			l = append(l, m.of(x)...)
		}
		fate[h] = gather(l)
	}
	return truth{ways: extend(u.ways, way), end: m.plan(u.end), fate: fate}
}

// allows reports whether all facts are so in a truth.
func (t tale) allows(u truth) bool {
	for _, f := range t.Facts {
		if !slices.Contains(u.fate[f.From], f.To) {
			return false
		}
	}
	return true
}

// Truths returns all truths of a story.
func Truths(s api.Story) ([][]int, api.Errno) {
	t, e := begin(s)
	if e != api.OK {
		return nil, e
	}
	var l [][]int
	for u := range t.truths() {
		l = append(l, u.ways)
	}
	return l, api.OK
}

// Ends returns all different ends of the truths.
func Ends(s api.Story) ([]api.Plan, api.Errno) {
	t, e := begin(s)
	if e != api.OK {
		return nil, e
	}
	var l []api.Plan
	for u := range t.truths() {
		met := func(p api.Plan) bool { return samePlan(p, u.end) }
		if !slices.ContainsFunc(l, met) {
			l = append(l, u.end)
		}
	}
	return l, api.OK
}

// Where returns all houses that a house becomes in some truth.
func Where(s api.Story, house api.Place) ([]api.Place, api.Errno) {
	t, e := begin(s)
	if e != api.OK {
		return nil, e
	}
	if !isHouse(t.First, house) {
		return nil, api.ErrNoSuch
	}
	some := false
	var l []api.Place
	for u := range t.truths() {
		some = true
		l = gather(l, u.fate[house])
	}
	if !some {
		return nil, api.ErrNone
	}
	return l, api.OK
}

// Whence returns all houses that become a house in some truth.
func Whence(s api.Story, house api.Place) ([]api.Place, api.Errno) {
	t, e := begin(s)
	if e != api.OK {
		return nil, e
	}
	some := false
	var l []api.Place
	for u := range t.truths() {
		some = true
		for _, h := range t.houses {
			if slices.Contains(u.fate[h], house) {
				l = gather(l, []api.Place{h})
			}
		}
	}
	if !some {
		return nil, api.ErrNone
	}
	// A house of an end always was a house of the first plan.
	if len(l) == 0 {
		return nil, api.ErrNoSuch
	}
	return l, api.OK
}

// Verdict returns whether a house becomes another one.
func Verdict(s api.Story, from, to api.Place) (int, api.Errno) {
	t, e := begin(s)
	if e != api.OK {
		return 0, e
	}
	if !isHouse(t.First, from) {
		return 0, api.ErrNoSuch
	}
	verdict := 0
search:
	for u := range t.truths() {
		is := slices.Contains(u.fate[from], to)
		switch {
		case is && verdict == api.Out, !is && verdict == api.Sure:
			verdict = api.Open
			break search
		case is:
			verdict = api.Sure
		default:
			verdict = api.Out
		}
	}
	if verdict == 0 {
		return 0, api.ErrNone
	}
	return verdict, api.OK
}

// Lost returns all houses that become none in all truths.
func Lost(s api.Story) ([]api.Place, api.Errno) {
	t, e := begin(s)
	if e != api.OK {
		return nil, e
	}
	some := false
	lost := slices.Clone(t.houses)
	for u := range t.truths() {
		some = true
		lost = slices.DeleteFunc(lost, func(h api.Place) bool { return len(u.fate[h]) > 0 })
	}
	if !some {
		return nil, api.ErrNone
	}
	return lost, api.OK
}
