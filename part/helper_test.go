package part_test

import (
	"fmt"
	"reflect"
	"slices"
	"strings"
	"testing"

	"wayzgoose/api"
	"wayzgoose/name"
	"wayzgoose/part"
	"wayzgoose/trade"
)

// parts is how many parts a directory has.
const parts = 3

// exampleT is the text of the trades T of the chapter's examples, exampleR are
// the rules R.
const (
	exampleT = "class food\nclass bread in food\nclass cloth\nclass hats in cloth\n" +
		"baker is bread\nbonnets see hatter\nconfectioner is food also baker\nhatter is hats\n" +
		"mercer is cloth also hatter\nmilliner see bonnets\nfinis\n"
	exampleR = "ph=f y=i e="
)

// trades returns the trades of a text.
func trades(text string) api.Trades {
	t, _, e := trade.Read(text)
	if e != api.OK {
		panic(e)
	}
	return t
}

// rules returns rules: the two pieces of each, with an equals sign between.
func rules(text string) []api.Rule {
	var l []api.Rule
	for _, r := range strings.Fields(text) {
		from, to, _ := strings.Cut(r, "=")
		l = append(l, api.Rule{From: from, To: to})
	}
	return l
}

// people returns people: of each the name, the street and the number, with a
// stroke between, the word of the heading, if there is one, and * if the entry
// is bold. They are separated by commas.
func people(t api.Trades, text string) []api.Person {
	var l []api.Person
	for _, line := range strings.Split(text, ",") {
		row := strings.Fields(line)
		if len(row) == 0 {
			continue
		}
		p := api.Person{Name: row[0], Head: -1}
		fmt.Sscanf(row[1], "%d/%d", &p.Street, &p.Number)
		for _, word := range row[2:] {
			if word == "*" {
				p.Bold = true
			} else {
				p.Head = slices.IndexFunc(t.Heads, func(h api.Head) bool { return h.Word == word })
			}
		}
		l = append(l, p)
	}
	return l
}

// volume returns a volume of two streets with the trades T and the rules R.
func volume(width, rows int, text string) api.Volume {
	t := trades(exampleT)
	return api.Volume{Streets: 2, Width: width, Rows: rows, Trades: t, Rules: rules(exampleR), People: people(t, text)}
}

// exampleV returns the volume V of the chapter's examples.
func exampleV() api.Volume {
	return volume(5, 4, "smith 0/12 baker, smyth 0/12 confectioner, CAD 1/3, anna 0/7 hatter *")
}

// changed returns V to which something was done.
func changed(do func(v *api.Volume)) api.Volume {
	v := exampleV()
	do(&v)
	return v
}

// some returns the people of a volume with some numbers.
func some(v api.Volume, numbers ...int) []api.Person {
	var l []api.Person
	for _, n := range numbers {
		l = append(l, v.People[n])
	}
	return l
}

// exampleO returns the old parts O of the chapter's examples.
func exampleO() api.Parts {
	v := exampleV()
	return api.Parts{ByStreet: some(v, 3, 0, 1, 2), ByName: some(v, 3, 2, 0), ByTrade: some(v, 0, 1, 3)}
}

// inVolume returns a volume with other people.
func inVolume(v api.Volume, l []api.Person) api.Volume {
	v.People = l
	return v
}

// lists returns the three lists of old parts.
func lists(p api.Parts) [parts][]api.Person {
	return [parts][]api.Person{p.ByStreet, p.ByName, p.ByTrade}
}

// list returns one of the lists of old parts.
func list(p *api.Parts, at int) *[]api.Person {
	return []*[]api.Person{&p.ByStreet, &p.ByName, &p.ByTrade}[at]
}

// cloneParts returns old parts that share nothing with p.
func cloneParts(p api.Parts) api.Parts {
	return api.Parts{ByStreet: slices.Clone(p.ByStreet), ByName: slices.Clone(p.ByName), ByTrade: slices.Clone(p.ByTrade)}
}

// rank returns a string by which people are in the order of a part.
func rank(at int, p api.Person) string {
	key, _ := name.Key(p.Name)
	alphabet := "a"
	if p.Name < "a" {
		alphabet = "b"
	}
	name := key + " " + alphabet
	street, number, head := fmt.Sprintf("%02d", p.Street), fmt.Sprintf("%02d", p.Number), fmt.Sprintf("%02d", p.Head+1)
	bold := fmt.Sprint(p.Bold)
	return strings.Join([][]string{
		{street, number, name, head, bold},
		{name, street, number, head, bold},
		{head, name, street, number, bold},
	}[at], "/")
}

// sorted returns a list of people in the order of a part, without those who do
// not stand in it.
func sorted(at int, l []api.Person) []api.Person {
	l = slices.DeleteFunc(slices.Clone(l), func(p api.Person) bool { return at == api.PartTrade && p.Head == -1 })
	slices.SortStableFunc(l, func(a, b api.Person) int { return strings.Compare(rank(at, a), rank(at, b)) })
	return l
}

// isSorted reports whether lines are in the order of a part.
func isSorted(at int, l []api.Person) bool { return slices.Equal(l, sorted(at, l)) }

// setOut returns the three parts of a list of people.
func setOut(l []api.Person) api.Parts {
	return api.Parts{ByStreet: sorted(0, l), ByName: sorted(1, l), ByTrade: sorted(2, l)}
}

// count returns how often a person is in a list.
func count(l []api.Person, p api.Person) int {
	n := 0
	for _, x := range l {
		if x == p {
			n++
		}
	}
	return n
}

// heading returns the heading of a person in a part.
func heading(v api.Volume, at int, p api.Person) string {
	key, _ := name.Key(p.Name)
	switch at {
	case api.PartStreet:
		return fmt.Sprintf("street %d", p.Street)
	case api.PartName:
		return key[:1]
	}
	return v.Trades.Heads[p.Head].Word
}

// ordered returns the numbers of Order.
func ordered(t *testing.T, v api.Volume, at int) []int {
	t.Helper()
	l, e := part.Order(v, at)
	mustBe(t, "Order", e, api.OK)
	return l
}

// entry returns the rows of Entry, which there are.
func entry(t *testing.T, v api.Volume, at, number int) []string {
	t.Helper()
	l, e := part.Entry(v, at, number)
	mustBe(t, "Entry", e, api.OK)
	return l
}

// mustBe fails if an error is not the one that is due.
func mustBe(t *testing.T, what string, e, want api.Errno) {
	t.Helper()
	if e != want {
		t.Errorf("%s: error %d, want %d", what, e, want)
	}
}

// mustEqual fails if a list is not the one that is due.
func mustEqual[T comparable](t *testing.T, what string, l, want []T) {
	t.Helper()
	if !slices.Equal(l, want) {
		t.Errorf("%s: %v, want %v", what, l, want)
	}
}

// rows returns the rows of a text: they are separated by commas.
func rows(text string) []string {
	if text == "" {
		return nil
	}
	return strings.Split(text, ", ")
}

// pages returns the pages of a text: they are separated by semicolons.
func pages(text string) [][]string {
	if text == "" {
		return nil
	}
	var l [][]string
	for _, page := range strings.Split(text, "; ") {
		l = append(l, rows(page))
	}
	return l
}

// numbers returns the numbers of a text.
func numbers(text string) []int {
	var l []int
	for _, word := range strings.Fields(text) {
		n := 0
		fmt.Sscan(word, &n)
		l = append(l, n)
	}
	return l
}

// isZero reports whether a value is the zero value, or an empty slice.
func isZero(x any) bool {
	v := reflect.ValueOf(x)
	return v.IsZero() || v.Kind() == reflect.Slice && v.Len() == 0
}

// choices goes through all lists of size numbers below n, in their order, until
// one is good, and returns it.
func choices(n, size int, good func([]int) bool) ([]int, bool) {
	var grow func(l []int, from int) ([]int, bool)
	grow = func(l []int, from int) ([]int, bool) {
		if len(l) == size {
			return slices.Clone(l), good(l)
		}
		for i := from; i < n; i++ {
			if found, ok := grow(append(l, i), i+1); ok {
				return found, true
			}
		}
		return nil, false
	}
	return grow(nil, 0)
}

// without returns a list without what is at some indices.
func without[T any](l []T, indices []int) []T {
	var rest []T
	for i, x := range l {
		if !slices.Contains(indices, i) {
			rest = append(rest, x)
		}
	}
	return rest
}
