package lodge

import (
	"cmp"
	"math/bits"
	"slices"

	"wayzgoose/api"
)

// set is entries, as bits.
type set uint8

func (s set) with(entry int) set { return s | 1<<entry }

func (s set) has(entry int) bool { return s>>entry&1 == 1 }

func (s set) hasAll(other set) bool { return s&other == other }

func (s set) size() int { return bits.OnesCount8(uint8(s)) }

// list returns the indices of the entries, ascending.
func (s set) list() []int {
	var l []int
	for entry := range api.MaxEntries {
		if s.has(entry) {
			l = append(l, entry)
		}
	}
	return l
}

// compare compares two sets: the one with fewer entries is less, of as many the
// one whose list comes first.
func (s set) compare(t set) int {
	return cmp.Or(cmp.Compare(s.size(), t.size()), slices.Compare(s.list(), t.list()))
}

// all returns all entries.
func (g *ledger) all() set { return 1<<len(g.Entries) - 1 }

// record is which entries are true together.
type record struct {
	all  set
	told map[set]bool // for each world: just these are true
}

func (g *ledger) record() record {
	r := record{g.all(), map[set]bool{}}
	for w := range g.worlds() {
		r.told[w.told()] = true
	}
	return r
}

// agree reports whether all of these entries are true in some world.
func (r record) agree(s set) bool {
	for told := range r.told {
		if told.hasAll(s) {
			return true
		}
	}
	return false
}

// clash reports whether these entries are not all true in any world.
func (r record) clash(s set) bool { return !r.agree(s) }

// agreeWithout reports whether all entries but these are true in some world.
func (r record) agreeWithout(s set) bool { return r.agree(r.all &^ s) }

// least returns the least set of entries that is good; the set of all is.
func (r record) least(good func(set) bool) set {
	best := r.all
	for s := range r.all {
		if s.compare(best) < 0 && good(s) {
			best = s
		}
	}
	return best
}

// Whom returns all people of whom an entry can be told.
func Whom(l api.Lodging, entry int) ([]int, api.Errno) {
	g, e := enter(l, named{entries: []int{entry}})
	if e != api.OK {
		return nil, e
	}
	var people []int
	for person := range g.People {
		told := look{g, func(t world) (int, bool) { return entry, t.people[person].told[t.past].has(entry) }}
		if told.verdict() != api.Out {
			people = append(people, person)
		}
	}
	return people, api.OK
}

// Wrong returns the fewest entries without which there is a truth.
func Wrong(l api.Lodging) ([]int, api.Errno) {
	g, e := open(l)
	if e != api.OK {
		return nil, e
	}
	r := g.record()
	return r.least(r.agreeWithout).list(), api.OK
}

// Clash returns the fewest entries with which alone there is no truth.
func Clash(l api.Lodging) ([]int, api.Errno) {
	g, e := open(l)
	if e != api.OK {
		return nil, e
	}
	r := g.record()
	if r.agree(r.all) {
		return nil, api.ErrNone
	}
	return r.least(r.clash).list(), api.OK
}

// Add returns a lodging with one entry more.
func Add(l api.Lodging, x api.Entry) (api.Lodging, api.Errno) {
	g, e := begin(l)
	if e != api.OK {
		return api.Lodging{}, e
	}
	if e := g.checkEntry(x); e != api.OK {
		return api.Lodging{}, e
	}
	if len(g.Entries) == api.MaxEntries {
		return api.Lodging{}, api.ErrFull
	}
	before := g.all()
	g.Lodging = clone(l)
	g.Entries = append(g.Entries, x)
	g.fill()
	if r := g.record(); r.clash(r.all) && r.agree(before) {
		return api.Lodging{}, api.ErrClash
	}
	return g.Lodging, api.OK
}

// clone returns a lodging that shares no memory with l.
func clone(l api.Lodging) api.Lodging {
	l.Story.First.Streets = slices.Clone(l.Story.First.Streets)
	for i, row := range l.Story.First.Streets {
		l.Story.First.Streets[i] = slices.Clone(row)
	}
	l.Story.Steps = slices.Clone(l.Story.Steps)
	for i, step := range l.Story.Steps {
		l.Story.Steps[i].Ways = slices.Clone(step.Ways)
	}
	l.Story.Facts = slices.Clone(l.Story.Facts)
	l.People = slices.Clone(l.People)
	l.Rules = slices.Clone(l.Rules)
	l.Entries = slices.Clone(l.Entries)
	return l
}
