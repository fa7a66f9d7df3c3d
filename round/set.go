package round

import (
	"math/bits"
	"slices"

	"wayzgoose/api"
)

// doors is a set of doors: the bit d is the door d.
type doors uint

func (s doors) has(d int) bool { return s>>d&1 == 1 }

func (s doors) with(d int) doors { return s | 1<<d }

func (s doors) without(d int) doors { return s &^ (1 << d) }

func (s doors) count() int { return bits.OnesCount(uint(s)) }

// roll is a set of doors, door by door.
type roll [api.MaxDoors]bool

func (s doors) roll() roll {
	var r roll
	for d := range r {
		r[d] = s.has(d)
	}
	return r
}

// maxShifts is how many shifts a ground has at most.
const maxShifts = 2 * api.MaxRoundDays

// shifts is a set of shifts: the bit n is the shift n.
type shifts uint

// mornings and evenings are those of all days.
const (
	mornings shifts = 0b010101
	evenings shifts = mornings << 1
)

func (s shifts) has(shift int) bool { return s>>shift&1 == 1 }

func (s shifts) with(shift int) shifts { return s | 1<<shift }

func (s shifts) count() int { return bits.OnesCount(uint(s)) }

func (s shifts) morning() bool { return s&mornings != 0 }

func (s shifts) evening() bool { return s&evenings != 0 }

// from reports whether no shift is before this one.
func (s shifts) from(shift int) bool { return s>>shift<<shift == s }

// days returns the mornings of all days that have one of the shifts.
func (s shifts) days() shifts { return (s | s>>1) & mornings }

// compare compares the ascending lists of two sets in lexicographic order.
func (s shifts) compare(t shifts) int { return slices.Compare(list(s), list(t)) }

// list returns the numbers of a set, ascending.
func list[S ~uint](s S) []int {
	var l []int
	for n := range bits.Len(uint(s)) {
		if s>>n&1 == 1 {
			l = append(l, n)
		}
	}
	return l
}
