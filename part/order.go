package part

import (
	"slices"

	"wayzgoose/api"
	"wayzgoose/trade"
)

// person is one of the people of a volume at work.
type person struct {
	api.Person
	number int
}

// people returns the people of a part in its order.
func (b *book) people(l layout) []person {
	var people []person
	for number, p := range b.People {
		if l.holds(p) {
			people = append(people, person{p, number})
		}
	}
	slices.SortStableFunc(people, func(p, q person) int { return l.compare(p.Person, q.Person) })
	return people
}

// order returns the numbers of the people of a part in its order.
func (b *book) order(l layout) []int {
	var numbers []int
	for _, p := range b.people(l) {
		numbers = append(numbers, p.number)
	}
	return numbers
}

// with returns the numbers of all people who have one of these trades, in the
// order of the part of trades.
func (b *book) with(trades []int) []int {
	return slices.DeleteFunc(b.order(b.layout(api.PartTrade)), func(number int) bool {
		return !slices.Contains(trades, b.People[number].Head)
	})
}

// Order returns the numbers of all people of a part in its order.
func Order(v api.Volume, part int) ([]int, api.Errno) {
	return caught(func() []int {
		b := begin(v)
		return b.order(b.layout(part))
	})
}

// Under returns the numbers of all people whose trade is under a class.
func Under(v api.Volume, class int) ([]int, api.Errno) {
	return caught(func() []int {
		b := begin(v)
		trades, e := trade.Under(b.Trades, class)
		must(e)
		return b.with(trades)
	})
}

// Find returns the numbers of all people whose trade a beginning means.
func Find(v api.Volume, beginning string) ([]int, api.Errno) {
	return caught(func() []int {
		b := begin(v)
		trades, e := trade.May(b.Trades, beginning)
		must(e)
		return b.with(trades)
	})
}
