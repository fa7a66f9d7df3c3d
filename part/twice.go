package part

import (
	"wayzgoose/api"
	"wayzgoose/name"
	"wayzgoose/trade"
)

// related reports whether somebody can have been told with both of two headings.
func (b *book) related(head, other int) bool {
	if head == other || head == none || other == none {
		return true
	}
	class, e := trade.Least(b.Trades, b.Trades.Heads[head].Class, b.Trades.Heads[other].Class)
	must(e)
	return class != none
}

// verdict returns whether two people are the same.
func (b *book) verdict(p, q api.Person) int {
	if compareHouses(p, q) != 0 || !b.related(p.Head, q.Head) {
		return api.Out
	}
	verdict, e := name.Verdict(b.Rules, p.Name, q.Name)
	must(e)
	if verdict == api.Sure && p.Head != q.Head {
		return api.Open
	}
	return verdict
}

// Twice returns all pairs of people that may be the same.
func Twice(v api.Volume) ([]api.Twin, api.Errno) {
	return caught(func() []api.Twin {
		b := begin(v)
		var twins []api.Twin
		for i, p := range b.People {
			for j := i + 1; j < len(b.People); j++ {
				if verdict := b.verdict(p, b.People[j]); verdict != api.Out {
					twins = append(twins, api.Twin{A: i, B: j, Verdict: verdict})
				}
			}
		}
		return twins
	})
}
