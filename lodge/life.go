package lodge

import (
	"maps"
	"slices"
	"sync"

	"wayzgoose/api"
)

// life is where a person is on each day: a home, or none. On days that a
// lodging does not have it is none.
type life [api.MaxDays]int

// nowhere is the life of somebody who never has a home.
var nowhere = life{none, none, none, none}

func (l life) compare(m life) int { return slices.Compare(l[:], m[:]) }

// meets reports whether two people with these lives are at one home on a day.
func (l life) meets(m life) bool {
	if l == m {
		return l != nowhere
	}
	for day, home := range l {
		if home != none && home == m[day] {
			return true
		}
	}
	return false
}

// moves returns on how many days but the first one of so many l is not where it
// was on the day before.
func (l life) moves(days int) int {
	n := 0
	for day := 1; day < days; day++ {
		if l[day] != l[day-1] {
			n++
		}
	}
	return n
}

// settled reports whether each stay that begins after the first of so many
// days, and ends before the last one, has at least stay days.
func (l life) settled(days, stay int) bool {
	from := 0 // where what is so on the day before began
	for day := 1; day < days; day++ {
		if l[day] == l[day-1] {
			continue
		}
		if l[from] != none && from > 0 && day-from < stay {
			return false
		}
		from = day
	}
	return true
}

// lives returns all possible lives in their order.
func (g *ledger) lives() []life {
	met := map[life]bool{}
	var lock sync.Mutex
	var wait sync.WaitGroup
	for first := none; first < len(g.homes); first++ {
		wait.Add(1)
		go func() {
			defer wait.Done()
			made := g.livesFrom(first)
			lock.Lock()
			defer lock.Unlock()
			for _, l := range made {
				met[l] = true
			}
		}()
	}
	wait.Wait()
	return slices.SortedFunc(maps.Keys(met), life.compare)
}

// livesFrom returns all possible lives that begin at a home, or none.
func (g *ledger) livesFrom(first int) []life {
	var made []life
	var grow func(l life, day int)
	grow = func(l life, day int) {
		if day == g.Days {
			if l.settled(g.Days, g.Stay) {
				made = append(made, l)
			}
			return
		}
		for home := none; home < len(g.homes); home++ {
			l[day] = home
			grow(l, day+1)
		}
	}
	l := nowhere
	l[0] = first
	grow(l, 1)
	return made
}
