package lodge

import (
	"iter"
	"slices"

	"wayzgoose/api"
	"wayzgoose/name"
	"wayzgoose/street"
)

// option is a possible life of a person, and the entries that it makes true in
// each truth of the story.
type option struct {
	life
	told [api.MaxPasts]set
}

// world is a truth of the story and possible lives of all people, whichever
// entries are true. While it grows it has fewer people.
type world struct {
	past   int
	people [api.MaxPeople]option
}

// told returns the entries that are true.
func (w *world) told() set {
	s := set(0)
	for _, o := range w.people {
		s |= o.told[w.past]
	}
	return s
}

// hasRoom reports whether a person with a life meets nobody of the people before
// them.
func (w *world) hasRoom(person int, l life) bool {
	for _, o := range w.people[:person] {
		if o.meets(l) {
			return false
		}
	}
	return true
}

// claim is what an entry says in a truth of the story: somebody was at a home
// on a day from low to high. The home is none if there is none.
type claim struct{ home, low, high int }

func (c claim) trueOf(l life) bool {
	return c.home != none && slices.Contains(l[c.low:c.high+1], c.home)
}

// fill finds the options of all people.
func (g *ledger) fill() {
	lives, fitting := g.lives(), g.fitting()
	var claims [][]claim
	for _, ways := range g.pasts {
		claims = append(claims, g.claims(ways))
	}
	for _, fits := range fitting {
		var options []option
		for _, l := range lives {
			options = append(options, optionOf(l, fits, claims))
		}
		g.options = append(g.options, options)
	}
}

// optionOf returns what a life is to a person whose name fits some entries;
// claims are those of each truth of the story.
func optionOf(l life, fits set, claims [][]claim) option {
	o := option{life: l}
	for past, all := range claims {
		for entry, c := range all {
			if fits.has(entry) && c.trueOf(l) {
				o.told[past] = o.told[past].with(entry)
			}
		}
	}
	return o
}

// fitting returns the entries that the name of each person fits.
func (g *ledger) fitting() []set {
	l := make([]set, len(g.People))
	for person, its := range g.People {
		for entry, x := range g.Entries {
			if v, _ := name.Verdict(g.Rules, its, x.Name); v != api.Out {
				l[person] = l[person].with(entry)
			}
		}
	}
	return l
}

// claims returns what all entries say in a truth of the story.
func (g *ledger) claims(ways []int) []claim {
	s := g.Story
	s.Steps = nil
	for i, way := range ways {
		s.Steps = append(s.Steps, api.Step{Ways: []api.Change{g.Story.Steps[i].Ways[way]}})
	}
	var l []claim
	for _, x := range g.Entries {
		l = append(l, claim{g.homeOf(s, x), x.Low, x.High})
	}
	return l
}

// homeOf returns the home of an entry in a story with one truth, or none.
func (g *ledger) homeOf(s api.Story, x api.Entry) int {
	if !x.Late {
		return slices.Index(g.homes, x.House)
	}
	were, e := street.Whence(s, x.House)
	if e != api.OK {
		return none
	}
	// In one truth each house was just one house.
	return slices.Index(g.homes, were[0])
}

// worlds goes through all worlds.
func (g *ledger) worlds() iter.Seq[world] {
	return func(yield func(world) bool) {
		var w world
		var grow func(person int) bool
		grow = func(person int) bool {
			if person == len(g.People) {
				return g.inPasts(w, yield)
			}
			for _, o := range g.options[person] {
				if !w.hasRoom(person, o.life) {
					continue
				}
				w.people[person] = o
				if !grow(person + 1) {
					return false
				}
			}
			return true
		}
		grow(0)
	}
}

// inPasts yields the world of these lives in each truth of the story.
func (g *ledger) inPasts(w world, yield func(world) bool) bool {
	for past := range g.pasts {
		w.past = past
		if !yield(w) {
			return false
		}
	}
	return true
}

// truths goes through all truths: the worlds in which each entry is true.
func (g *ledger) truths() iter.Seq[world] {
	return func(yield func(world) bool) {
		for w := range g.worlds() {
			if w.told() == g.all() && !yield(w) {
				return
			}
		}
	}
}

// Truths returns how many different truths a lodging has.
func Truths(l api.Lodging) (int, api.Errno) {
	g, e := open(l)
	if e != api.OK {
		return 0, e
	}
	n := 0
	for range g.truths() {
		n++
	}
	return n, api.OK
}
