package kin

import (
	"slices"

	"wayzgoose/api"
	"wayzgoose/name"
	"wayzgoose/trade"
)

// bar is something that can keep an old one and a new one apart.
type bar interface {
	kind() int
	parts(a, b int) bool
}

// kinds is how many kinds of bars there are.
const kinds = 3

// bars returns a bar of each kind, in the order of the kinds.
func (f *folk) bars() [kinds]bar {
	return [kinds]bar{byName{f}, byTrade{f}, byFact{f}}
}

// byName parts people whose names can't be the same.
type byName struct{ *folk }

func (byName) kind() int { return api.ByName }

func (x byName) parts(a, b int) bool {
	verdict, e := name.Verdict(x.Rules, x.Before[a].Name, x.After[b].Name)
	must(e)
	return verdict == api.Out
}

// byTrade parts people with two trades that no class has under it.
type byTrade struct{ *folk }

func (byTrade) kind() int { return api.ByTrade }

func (x byTrade) parts(a, b int) bool {
	head, other := x.Before[a].Head, x.After[b].Head
	if head == none || other == none {
		return false
	}
	class, e := trade.Least(x.Trades, x.Trades.Heads[head].Class, x.Trades.Heads[other].Class)
	must(e)
	return class == none
}

// byFact parts people of whom a fact says that they are not the same.
type byFact struct{ *folk }

func (byFact) kind() int { return api.ByFact }

func (x byFact) parts(a, b int) bool {
	return slices.Contains(x.Facts, api.Tie{A: a, B: b, Same: false})
}

// apart returns the kinds of all that keeps two people apart, ascending.
func (f *folk) apart(a, b int) []int {
	var l []int
	for _, x := range f.bars() {
		if x.parts(a, b) {
			l = append(l, x.kind())
		}
	}
	return l
}

// areAlike reports whether nothing but facts keeps two people apart.
func (f *folk) areAlike(a, b int) bool {
	return !slices.ContainsFunc(f.apart(a, b), func(kind int) bool { return kind != api.ByFact })
}

// Apart returns all that keeps an old one and a new one apart.
func Apart(k api.Kin, a, b int) ([]int, api.Errno) {
	return caught(func() []int {
		f := begin(k)
		hold(f.isOld(a) && f.isNew(b), api.ErrNoSuch)
		return f.apart(a, b)
	})
}
