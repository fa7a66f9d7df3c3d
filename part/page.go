package part

import (
	"iter"
	"slices"
	"strings"

	"wayzgoose/api"
	"wayzgoose/name"
)

const (
	boldRow = "*"      // the second row of a bold entry
	again   = " again" // behind a heading that is repeated
	point   = "."      // ends an abbreviation, and no key
)

// fit returns what is set of the name of a person, or panics with ErrNone.
func (b *book) fit(number int) string {
	text, e := name.Fit(b.names, number, b.Width)
	must(e)
	return text
}

// fits reports whether all names can be set with a width.
func (b *book) fits(width int) bool {
	for number := range b.names {
		if _, e := name.Fit(b.names, number, width); e != api.OK {
			return false
		}
	}
	return true
}

// entry returns the rows of the entry of a person in a part, or panics with
// ErrNone.
func (b *book) entry(l layout, p person) []string {
	rows := []string{l.row(p.Person, b.fit(p.number))}
	if p.Bold {
		rows = append(rows, boldRow)
	}
	return rows
}

// block is an entry with its heading, which is set in front of the first entry
// that has it.
type block struct {
	heading string
	first   bool
	entry   []string
}

// rows returns the rows of a block behind another one.
func (x block) rows() []string {
	if !x.first {
		return x.entry
	}
	return append([]string{x.heading}, x.entry...)
}

// topRows returns the rows of a block with which a page begins.
func (x block) topRows() []string {
	heading := x.heading
	if !x.first {
		heading += again
	}
	return append([]string{heading}, x.entry...)
}

// blocks goes through the entries of a part. It panics with ErrNone.
func (b *book) blocks(l layout) iter.Seq[block] {
	return func(yield func(block) bool) {
		last := ""
		for _, p := range b.people(l) {
			heading := l.heading(p.Person)
			if !yield(block{heading, heading != last, b.entry(l, p)}) {
				return
			}
			last = heading
		}
	}
}

// set returns all rows of a part.
func (b *book) set(l layout) []string {
	var rows []string
	for x := range b.blocks(l) {
		rows = append(rows, x.rows()...)
	}
	return rows
}

// pages returns the pages of a part.
func (b *book) pages(l layout) [][]string {
	var done [][]string
	rest := slices.Collect(b.blocks(l))
pages:
	for len(rest) > 0 {
		page := rest[0].topRows()
		rest = rest[1:]
		for i, x := range rest {
			rows := x.rows()
			if len(page)+len(rows) > b.Rows {
				done = append(done, page)
				rest = rest[i:]
				continue pages
			}
			page = append(page, rows...)
		}
		done = append(done, page)
		rest = nil
	}
	return done
}

// Entry returns the rows of the entry of a person in a part.
func Entry(v api.Volume, part, person int) ([]string, api.Errno) {
	return caught(func() []string {
		b := begin(v)
		l := b.layout(part)
		if !between(person, 0, len(b.People)-1) {
			panic(api.ErrNoSuch)
		}
		return b.entryOf(l, person)
	})
}

// entryOf returns the entry of the person with a number, or panics with an
// error.
func (b *book) entryOf(l layout, number int) []string {
	p := person{b.People[number], number}
	if !l.holds(p.Person) {
		panic(api.ErrKind)
	}
	return b.entry(l, p)
}

// Set returns all rows of a part.
func Set(v api.Volume, part int) ([]string, api.Errno) {
	return caught(func() []string {
		b := begin(v)
		return b.set(b.layout(part))
	})
}

// Pages returns the pages of a part.
func Pages(v api.Volume, part int) ([][]string, api.Errno) {
	return caught(func() [][]string {
		b := begin(v)
		return b.pages(b.layout(part))
	})
}

// Short returns the numbers of all people whose name is abbreviated.
func Short(v api.Volume) ([]int, api.Errno) {
	return caught(func() []int {
		b := begin(v)
		var numbers []int
		for number := range b.People {
			if strings.HasSuffix(b.fit(number), point) {
				numbers = append(numbers, number)
			}
		}
		return numbers
	})
}

// Narrow returns the least width with which all names can be set.
func Narrow(v api.Volume) (int, api.Errno) {
	return caught(func() int {
		b := begin(v)
		for width := 1; width <= api.MaxWidth; width++ {
			if b.fits(width) {
				return width
			}
		}
		panic(api.ErrNone)
	})
}
