package trade_test

import (
	"cmp"
	"reflect"
	"slices"
	"strings"
	"testing"

	"wayzgoose/api"
)

// exampleT are the trades T of the chapter's examples, exampleU the trades U.
const (
	exampleT = "class food; class bread in food; class cloth; class hats in cloth; " +
		"baker is bread; bonnets see hatter; confectioner is food also baker; hatter is hats; " +
		"mercer is cloth also hatter; milliner see bonnets"
	exampleU = "class food; class bread in food; class cloth; class hats in cloth; " +
		"baker is bread; bonnets see hatter; hatter is cloth; ironmonger is food; " +
		"mercer is cloth also hatter; milliner see bonnets"
)

// list returns trades: their lines, with a semicolon between each two. A name
// that means nothing has the number -9, the word self the number of the line's
// own class or heading.
func list(text string) api.Trades {
	var t api.Trades
	var rows [][]string
	var words, names []string
	for _, line := range strings.Split(text, ";") {
		row := strings.Fields(line)
		if len(row) > 0 && row[0] == "class" {
			names = append(names, row[1])
		} else if len(row) > 0 {
			words = append(words, row[0])
		}
		rows = append(rows, row)
	}
	for _, row := range rows {
		if len(row) > 0 && row[0] == "class" {
			c := api.Class{Name: row[1], Under: -1}
			if len(row) > 2 {
				c.Under = number(names, row[3], len(t.Classes))
			}
			t.Classes = append(t.Classes, c)
		} else if len(row) > 0 {
			t.Heads = append(t.Heads, head(row, names, words, len(t.Heads)))
		}
	}
	return t
}

// head returns the heading of a line.
func head(row, names, words []string, self int) api.Head {
	h := api.Head{Word: row[0], Class: -1, See: -1}
	for i := 1; i < len(row); i++ {
		switch row[i] {
		case "is":
			h.Class = number(names, row[i+1], self)
			i++
		case "see":
			h.See = number(words, row[i+1], self)
			i++
		case "also":
		default:
			h.Also = append(h.Also, number(words, row[i], self))
		}
	}
	return h
}

func number(names []string, name string, self int) int {
	if name == "self" {
		return self
	}
	if at := slices.Index(names, name); at >= 0 {
		return at
	}
	return -9
}

// changed returns trades to which something was done.
func changed(text string, do func(t *api.Trades)) api.Trades {
	t := list(text)
	do(&t)
	return t
}

// clone returns trades that share nothing with t.
func clone(t api.Trades) api.Trades {
	u := api.Trades{Classes: slices.Clone(t.Classes)}
	for _, h := range t.Heads {
		h.Also = slices.Clone(h.Also)
		u.Heads = append(u.Heads, h)
	}
	return u
}

// same reports whether two trades are the same, nil and empty slices too.
func same(t, u api.Trades) bool {
	heads := func(a, b api.Head) bool {
		return a.Word == b.Word && a.Class == b.Class && a.See == b.See && slices.Equal(a.Also, b.Also)
	}
	return slices.Equal(t.Classes, u.Classes) && slices.EqualFunc(t.Heads, u.Heads, heads)
}

func sameLists(a, b [][]int) bool { return slices.EqualFunc(a, b, slices.Equal[[]int]) }

// isUnder reports whether a class is under another one.
func isUnder(t api.Trades, class, other int) bool {
	return class == other || class >= 0 && isUnder(t, t.Classes[class].Under, other)
}

// isTrade reports whether a heading is a trade.
func isTrade(t api.Trades, head int) bool { return t.Heads[head].Class != -1 }

// end returns where one comes by leaving so many pointers, at most, from a
// heading.
func end(t api.Trades, head, pointers int) int {
	for range pointers {
		if t.Heads[head].See != -1 {
			head = t.Heads[head].See
		}
	}
	return head
}

// stepsFrom returns in how many steps each heading is found, -1 if it is not:
// all ways are made shorter until none can be.
func stepsFrom(t api.Trades, head int) []int {
	far := len(t.Heads)
	steps := slices.Repeat([]int{far}, far)
	steps[head] = 0
	for range t.Heads {
		for from, h := range t.Heads {
			for _, to := range h.Also {
				steps[to] = min(steps[to], steps[from]+1)
			}
			if h.See != -1 {
				steps[h.See] = min(steps[h.See], steps[from]+1)
			}
		}
	}
	for i, n := range steps {
		if n >= far {
			steps[i] = -1
		}
	}
	return steps
}

// hiddenFrom returns the trades that are not found in so many steps.
func hiddenFrom(t api.Trades, head, steps int) []int {
	var l []int
	for i, n := range stepsFrom(t, head) {
		if isTrade(t, i) && (n == -1 || n > steps) {
			l = append(l, i)
		}
	}
	return l
}

// canBeAdded returns all references that can be added, in lexicographic order.
func canBeAdded(t api.Trades) [][]int {
	var l [][]int
	for from, h := range t.Heads {
		for to := range t.Heads {
			if h.See == -1 && to != from && !slices.Contains(h.Also, to) {
				l = append(l, []int{from, to})
			}
		}
	}
	return l
}

// added returns trades with some references more.
func added(t api.Trades, pairs [][]int) api.Trades {
	u := clone(t)
	for _, p := range pairs {
		h := &u.Heads[p[0]]
		h.Also = append(h.Also, p[1])
		slices.Sort(h.Also)
	}
	return u
}

// meant returns all trades that a beginning means.
func meant(t api.Trades, beginning string) []int {
	var l []int
	for i, h := range t.Heads {
		if e := end(t, i, len(t.Heads)); len(h.Word) >= len(beginning) && h.Word[:len(beginning)] == beginning && isTrade(t, e) {
			l = append(l, e)
		}
	}
	slices.Sort(l)
	return slices.Compact(l)
}

// path returns the names of all classes that a trade is under, the uppermost
// one first; none if the word is no trade.
func path(t api.Trades, word string) []string {
	var l []string
	for _, h := range t.Heads {
		if h.Word != word {
			continue
		}
		for class := h.Class; class != -1; class = t.Classes[class].Under {
			l = slices.Insert(l, 0, t.Classes[class].Name)
		}
	}
	return l
}

// mustBe fails if an error is not the one that is due.
func mustBe(t *testing.T, what string, e, want api.Errno) {
	t.Helper()
	if e != want {
		t.Errorf("%s: error %d, want %d", what, e, want)
	}
}

// isZero reports whether a value is the zero value, or an empty slice.
func isZero(x any) bool {
	v := reflect.ValueOf(x)
	return v.IsZero() || v.Kind() == reflect.Slice && v.Len() == 0
}

// die throws numbers that are the same in every run of the tests.
type die struct{ state uint64 }

// throw returns a number from 0 to n - 1.
func (d *die) throw(n int) int {
	d.state = d.state*6364136223846793005 + 1442695040888963407
	return int((d.state >> 33) % uint64(n))
}

// words returns at most n different words, many of which begin alike.
func (d *die) words(n int) []string {
	letters := []string{"ab", "abc", "abcdefghijklmnopqrstuvwxyz"}[d.throw(3)]
	var l []string
	for range n {
		word := ""
		for range 1 + d.throw(4) {
			word += string(letters[d.throw(len(letters))])
		}
		if d.throw(20) == 0 {
			word = []string{"in", "is", "see", "also", "classes", "fini"}[d.throw(6)]
		}
		if !slices.Contains(l, word) {
			l = append(l, word)
		}
	}
	return l
}

// trades returns valid trades with at most so many headings.
func (d *die) trades(most int) api.Trades {
	var t api.Trades
	for i, name := range d.words(d.throw(api.MaxClasses + 1)) {
		t.Classes = append(t.Classes, api.Class{Name: name, Under: d.throw(i+1) - 1})
	}
	words := d.words(d.throw(most + 1))
	slices.Sort(words)
	dense, pointers := d.throw(5), d.throw(5)
	for i, word := range words {
		t.Heads = append(t.Heads, d.head(t, word, i, len(words), dense, pointers))
	}
	// A heading alone that can be neither a trade nor refer to another one.
	return api.Trades{Classes: t.Classes, Heads: slices.DeleteFunc(t.Heads, func(h api.Head) bool {
		return h.Class == -1 && h.See == -1 && len(h.Also) == 0
	})}
}

// head returns a valid heading, if there is one with this number out of n.
func (d *die) head(t api.Trades, word string, at, n, dense, pointers int) api.Head {
	h := api.Head{Word: word, Class: -1, See: -1}
	other := func() int { return (at + 1 + d.throw(n-1)) % n }
	if n > 1 && d.throw(6) < pointers {
		h.See = other()
		return h
	}
	for to := range n {
		if to != at && d.throw(8) < dense {
			h.Also = append(h.Also, to)
		}
	}
	switch {
	case len(t.Classes) > 0 && (n == 1 || d.throw(5) > 0):
		h.Class = d.throw(len(t.Classes))
	case len(h.Also) == 0 && n > 1:
		h.Also = []int{other()}
	}
	return h
}

// someTrades returns valid trades with at least a class and a heading.
func (d *die) someTrades(most int) api.Trades {
	for {
		if t := d.trades(most); len(t.Classes) > 0 && len(t.Heads) > 0 {
			return t
		}
	}
}

// subsets goes through all lists of n pairs out of a list, in their order,
// until one is good, and returns it.
func subsets(l [][]int, n int, good func([][]int) bool) ([][]int, bool) {
	var grow func(chosen [][]int, at int) ([][]int, bool)
	grow = func(chosen [][]int, at int) ([][]int, bool) {
		if len(chosen) == n {
			return slices.Clone(chosen), good(chosen)
		}
		for i := at; i < len(l); i++ {
			if found, ok := grow(append(chosen, l[i]), i+1); ok {
				return found, true
			}
		}
		return nil, false
	}
	return grow(nil, 0)
}

// comparePairs compares two references.
func comparePairs(a, b []int) int { return cmp.Or(cmp.Compare(a[0], b[0]), cmp.Compare(a[1], b[1])) }
