package part

import (
	"cmp"
	"strconv"

	"wayzgoose/api"
	"wayzgoose/name"
)

// layout is what makes a part of a directory: who stands in it, in which order,
// and how it is set.
type layout interface {
	// holds reports whether a person stands in the part.
	holds(p api.Person) bool
	// compare returns which of two people comes first.
	compare(a, b api.Person) int
	// heading returns the heading of a person.
	heading(p api.Person) string
	// row returns the first row of the entry of a person whose name is set as
	// text.
	row(p api.Person, text string) string
}

// byName is the part of names. The others put something else first, and are as
// this one apart from it.
type byName struct{}

func (byName) holds(api.Person) bool { return true }

func (byName) compare(a, b api.Person) int {
	order, _ := name.Compare(a.Name, b.Name)
	return cmp.Or(order, compareHouses(a, b), cmp.Compare(a.Head, b.Head), compareBools(a.Bold, b.Bold))
}

func (byName) heading(p api.Person) string {
	key, _ := name.Key(p.Name)
	return key[:1]
}

func (byName) row(p api.Person, text string) string {
	return text + " " + strconv.Itoa(p.Street) + " " + strconv.Itoa(p.Number)
}

// byStreet is the part of streets.
type byStreet struct{ byName }

func (s byStreet) compare(a, b api.Person) int {
	return cmp.Or(compareHouses(a, b), s.byName.compare(a, b))
}

func (byStreet) heading(p api.Person) string { return "street " + strconv.Itoa(p.Street) }

func (byStreet) row(p api.Person, text string) string { return strconv.Itoa(p.Number) + " " + text }

// byTrade is the part of trades.
type byTrade struct {
	byName
	heads []api.Head
}

func (byTrade) holds(p api.Person) bool { return p.Head != none }

func (t byTrade) compare(a, b api.Person) int {
	return cmp.Or(cmp.Compare(a.Head, b.Head), t.byName.compare(a, b))
}

func (t byTrade) heading(p api.Person) string { return t.heads[p.Head].Word }

func compareHouses(a, b api.Person) int {
	return cmp.Or(cmp.Compare(a.Street, b.Street), cmp.Compare(a.Number, b.Number))
}

// compareBools puts false first.
func compareBools(a, b bool) int {
	switch {
	case a == b:
		return 0
	case b:
		return -1
	}
	return 1
}

// parts is how many parts a directory has.
const parts = 3

// layouts returns the parts by their numbers.
func (b *book) layouts() [parts]layout {
	return [parts]layout{
		api.PartStreet: byStreet{},
		api.PartName:   byName{},
		api.PartTrade:  byTrade{heads: b.Trades.Heads},
	}
}

// layout returns the part with a number, or panics with ErrRange.
func (b *book) layout(part int) layout {
	if !between(part, 0, parts-1) {
		panic(api.ErrRange)
	}
	return b.layouts()[part]
}
