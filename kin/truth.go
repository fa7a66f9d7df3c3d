package kin

import (
	"iter"
	"slices"
	"sync"

	"wayzgoose/api"
)

// pairing is with which new one each old one is a pair; none if with nobody, or
// if there is no such old one.
type pairing [api.MaxKin]int

// unpaired is the pairing without pairs.
var unpaired = pairing{none, none, none, none}

// has reports whether two people are a pair.
func (p pairing) has(a, b int) bool { return p[a] == b }

// origin returns the old one with whom a new one is a pair, or none.
func (p pairing) origin(b int) int { return slices.Index(p[:], b) }

// pairs returns all pairs, in the order of the old ones.
func (p pairing) pairs() [][]int {
	var l [][]int
	for a, b := range p {
		if b != none {
			l = append(l, []int{a, b})
		}
	}
	return l
}

// size returns how many pairs there are.
func (p pairing) size() int {
	n := 0
	for _, b := range p {
		if b != none {
			n++
		}
	}
	return n
}

// truth is a truth of the story, by its index, and a pairing.
type truth struct {
	past int
	pairing
}

// gone returns how many old ones have gone.
func (f *folk) gone(t truth) int { return len(f.Before) - t.size() }

// come returns how many new ones have come.
func (f *folk) come(t truth) int { return len(f.After) - t.size() }

// staysAs reports whether an old one is in a pair that stays.
func (f *folk) staysAs(t truth, a int) bool {
	b := t.pairing[a]
	return b != none && f.stays[t.past][a][b]
}

// moved returns how many pairs have moved.
func (f *folk) moved(t truth) int {
	n := t.size()
	for a := range f.Before {
		if f.staysAs(t, a) {
			n--
		}
	}
	return n
}

// told returns the facts that are so with a pairing.
func (f *folk) told(p pairing) set {
	s := set(0)
	for n, x := range f.Facts {
		if p.has(x.A, x.B) == x.Same {
			s = s.with(n)
		}
	}
	return s
}

// allows reports whether some facts are so, and the limits hold.
func (f *folk) allows(t truth, facts set) bool {
	return f.told(t.pairing).hasAll(facts) && f.gone(t) <= f.Gone && f.come(t) <= f.New && f.moved(t) <= f.Moved
}

// pairings goes through all sets of pairs of people who are alike in which
// nobody is twice, whatever the facts say.
func (f *folk) pairings() iter.Seq[pairing] {
	return func(yield func(pairing) bool) {
		var grow func(p pairing, a int) bool
		grow = func(p pairing, a int) bool {
			if a == len(f.Before) {
				return yield(p)
			}
			if !grow(p, a+1) {
				return false
			}
			for b := range f.After {
				if !f.alike[a][b] || p.origin(b) != none {
					continue
				}
				more := p
				more[a] = b
				if !grow(more, a+1) {
					return false
				}
			}
			return true
		}
		grow(unpaired, 0)
	}
}

// share is all truths with one truth of the story.
type share struct {
	past   int
	truths []truth
}

// shareOf returns the share of a truth of the story.
func (f *folk) shareOf(past int) share {
	s := share{past: past}
	for p := range f.pairings() {
		if t := (truth{past, p}); f.allows(t, f.all()) {
			s.truths = append(s.truths, t)
		}
	}
	return s
}

// truths returns all truths.
func (f *folk) truths() []truth {
	found := make(chan share, len(f.pasts))
	var wait sync.WaitGroup
	for past := range f.pasts {
		wait.Add(1)
		go func() {
			defer wait.Done()
			found <- f.shareOf(past)
		}()
	}
	wait.Wait()
	close(found)
	var byPast [api.MaxPasts][]truth
	for s := range found {
		byPast[s.past] = s.truths
	}
	return slices.Concat(byPast[:]...)
}

// someTruths returns all truths, or panics with ErrClash if there is none.
func (f *folk) someTruths() []truth {
	l := f.truths()
	hold(len(l) > 0, api.ErrClash)
	return l
}

// Truths returns how many truths there are.
func Truths(k api.Kin) (int, api.Errno) {
	return caught(func() int { return len(open(k).truths()) })
}
