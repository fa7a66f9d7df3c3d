package trade

import (
	"iter"
	"strings"

	"wayzgoose/api"
)

// may returns all trades that a beginning means.
func (l list) may(beginning string) set {
	var trades set
	for i, h := range l.Heads {
		if !strings.HasPrefix(h.Word, beginning) {
			continue
		}
		if end, _, ok := l.follow(i); ok && l.isTrade(end) {
			trades = trades.with(end)
		}
	}
	return trades
}

// meansOne reports whether a beginning means just one trade.
func (l list) meansOne(beginning string) bool { return len(l.may(beginning).numbers()) == 1 }

// beginnings goes through all beginnings of a word, from the empty one to the
// word.
func beginnings(word string) iter.Seq[string] {
	return func(yield func(string) bool) {
		for at := range word {
			if !yield(word[:at]) {
				return
			}
		}
		yield(word)
	}
}

// May returns all trades that a beginning means.
func May(t api.Trades, beginning string) ([]int, api.Errno) {
	l, e := begin(t)
	if e != api.OK {
		return nil, e
	}
	return l.may(beginning).numbers(), api.OK
}

// Means returns whether a beginning means a trade.
func Means(t api.Trades, beginning string, head int) (int, api.Errno) {
	l, e := beginHead(t, head)
	if e != api.OK {
		return 0, e
	}
	if !l.isTrade(head) {
		return 0, api.ErrKind
	}
	switch trades := l.may(beginning); {
	case !trades.has(head):
		return api.Out, api.OK
	case trades == set(0).with(head):
		return api.Sure, api.OK
	}
	return api.Open, api.OK
}

// Short returns the shortest beginning of the word of a heading that means just
// one trade.
func Short(t api.Trades, head int) (string, api.Errno) {
	l, e := beginHead(t, head)
	if e != api.OK {
		return "", e
	}
	shortest, ok := first(l.meansOne, beginnings(l.Heads[head].Word))
	if !ok {
		return "", api.ErrNone
	}
	return shortest, api.OK
}
