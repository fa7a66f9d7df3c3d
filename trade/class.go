package trade

import (
	"math/bits"

	"wayzgoose/api"
)

// set is a set of classes or of headings: the bit n is the number n.
type set uint

func (s set) has(n int) bool { return s>>n&1 == 1 }

func (s set) with(n int) set { return s | 1<<n }

// last returns the greatest number of a set, none if it is empty.
func (s set) last() int { return bits.Len(uint(s)) - 1 }

// before returns how many numbers of a set are less than n.
func (s set) before(n int) int { return bits.OnesCount(uint(s & (1<<n - 1))) }

// numbers returns the numbers of a set, ascending.
func (s set) numbers() []int {
	var l []int
	for n := range s.last() + 1 {
		if s.has(n) {
			l = append(l, n)
		}
	}
	return l
}

// path returns all classes from the uppermost one to a class: a class comes
// after those above it.
func (l list) path(class int) []int { return l.above[class].numbers() }

// Path returns all classes from the uppermost one to a class.
func Path(t api.Trades, class int) ([]int, api.Errno) {
	l, e := beginClass(t, class)
	if e != api.OK {
		return nil, e
	}
	return l.path(class), api.OK
}

// Least returns the least class that has two classes under it.
func Least(t api.Trades, a, b int) (int, api.Errno) {
	l, e := beginClass(t, a, b)
	if e != api.OK {
		return 0, e
	}
	return (l.above[a] & l.above[b]).last(), api.OK
}

// Under returns all trades under a class.
func Under(t api.Trades, class int) ([]int, api.Errno) {
	l, e := beginClass(t, class)
	if e != api.OK {
		return nil, e
	}
	var trades []int
	for i, h := range l.headings {
		if b, ok := h.(business); ok && l.above[b.class].has(class) {
			trades = append(trades, i)
		}
	}
	return trades, api.OK
}
