package proof_test

import (
	"slices"
	"testing"

	"wayzgoose/api"
)

// die throws numbers that are the same in every run of the tests.
type die struct{ state uint64 }

// throw returns a number from 0 to n - 1.
func (d *die) throw(n int) int {
	d.state = d.state*6364136223846793005 + 1442695040888963407
	return int((d.state >> 33) % uint64(n))
}

// pick returns one of some items.
func pick[T any](d *die, l ...T) T { return l[d.throw(len(l))] }

// someLines are valid lines.
func someLines() []string {
	return []string{"anna", "ben", "cyd", "a", "b", "a b", "a  b", "anna 7", "0", "0123456789", "z z z z z9"}
}

// line returns one of the first n of someLines.
func (d *die) line(n int) string { return someLines()[d.throw(min(n, len(someLines())))] }

// page returns a page of at most so many lines; it often has lines twice.
func (d *die) page(most int) []string {
	different := 1 + d.throw(len(someLines()))
	var page []string
	for range d.throw(most + 1) {
		page = append(page, d.line(different))
	}
	return page
}

// near returns a page that differs from another one in a few lines.
func (d *die) near(page []string) []string {
	page = slices.Clone(page)
	for range d.throw(4) {
		at := d.throw(len(page) + 1)
		switch kind := d.throw(3); {
		case kind == 0 && len(page) < api.MaxLines:
			page = slices.Insert(page, at, d.line(6))
		case kind == 1 && at < len(page):
			page[at] = d.line(6)
		case kind == 2 && at < len(page):
			page = slices.Delete(page, at, at+1)
		}
	}
	return page
}

// years returns at most so many years, each of which is near the one before it.
func (d *die) years(most int) [][]string {
	var all [][]string
	page := d.page(api.MaxLines)
	for range d.throw(most + 1) {
		all = append(all, page)
		page = d.near(page)
	}
	return all
}

// marks returns at most so many marks that are valid for a page.
func (d *die) marks(page []string, most int) []api.Mark {
	var l []api.Mark
	add := func(kind, at int, text string) {
		if len(l) < most {
			l = append(l, api.Mark{Kind: kind, At: at, Text: text})
		}
	}
	calm := 1 + d.throw(4)
	for at := range len(page) + 1 {
		for d.throw(1+calm) == 0 {
			add(api.MarkIn, at, d.line(4))
		}
		if at == len(page) || d.throw(calm) > 0 {
			continue
		}
		if d.throw(2) == 0 {
			add(api.MarkSet, at, d.line(4))
		} else {
			add(api.MarkOut, at, "")
		}
	}
	return l
}

// fitting returns marks that are valid for a page, and make no more lines of it
// than a page can have.
func (d *die) fitting(page []string) []api.Mark {
	for {
		if l := d.marks(page, api.MaxMarks); len(made(page, l)) <= api.MaxLines {
			return l
		}
	}
}

// met counts what the thrown inputs were like.
type met map[string]int

// mustAll fails unless each of these was met so often.
func (m met) mustAll(t *testing.T, least int, what ...string) {
	t.Helper()
	for _, w := range what {
		if m[w] < least {
			t.Errorf("%s: met %d times only", w, m[w])
		}
	}
}
