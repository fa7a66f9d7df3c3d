package name

import (
	"iter"
	"slices"
	"strings"

	"wayzgoose/api"
)

// point ends an abbreviation.
const point = "."

// readShort returns the letters of an abbreviation, or its error.
func readShort(abbr string) (key, error) {
	letters, ok := strings.CutSuffix(abbr, point)
	if k := key(letters); ok && k.fits() && k.isLatin() {
		return k, nil
	}
	return "", wrongString{api.ErrForm}
}

// line is the key of a name of a list, and the keys of the names for which it
// can be mistaken.
type line struct {
	key    key
	others []key
}

// beginLine returns the line of the name at an index, or the first error.
func beginLine(l []string, at int) (line, api.Errno) {
	names, err := readList(l)
	if err != nil {
		return line{}, codeOf(err)
	}
	if at < 0 || at >= len(names) {
		return line{}, api.ErrNoSuch
	}
	n := line{key: names[at].key}
	for _, s := range names {
		if s.key != n.key {
			n.others = append(n.others, s.key)
		}
	}
	return n, api.OK
}

// unmistaken reports whether an abbreviation that stands for the name cannot be
// mistaken.
func (n line) unmistaken(letters key) bool {
	return !slices.ContainsFunc(n.others, letters.shortens)
}

// first returns the first abbreviation that cannot be mistaken, of the first
// sequence of letters that has one.
func (n line) first(sequences []iter.Seq[key]) (string, api.Errno) {
	letters, ok := first(n.unmistaken, sequences...)
	if !ok {
		return "", api.ErrNone
	}
	return string(letters) + point, api.OK
}

// Short returns whether an abbreviation stands for a name.
func Short(abbr, name string) (bool, api.Errno) {
	letters, err := readShort(abbr)
	if err != nil {
		return false, codeOf(err)
	}
	s, err := read(name)
	if err != nil {
		return false, codeOf(err)
	}
	return letters.shortens(s.key), api.OK
}

// Stands returns the indices of the names of a list for which an abbreviation
// stands.
func Stands(abbr string, l []string) ([]int, api.Errno) {
	letters, err := readShort(abbr)
	if err != nil {
		return nil, codeOf(err)
	}
	names, err := readList(l)
	if err != nil {
		return nil, codeOf(err)
	}
	var indices []int
	for i, s := range names {
		if letters.shortens(s.key) {
			indices = append(indices, i)
		}
	}
	return indices, api.OK
}

// Shortest returns the abbreviation with the fewest letters that cannot be
// mistaken for the name at an index.
func Shortest(l []string, at int) (string, api.Errno) {
	n, e := beginLine(l, at)
	if e != api.OK {
		return "", e
	}
	var all []iter.Seq[key]
	for letters := 1; letters < len(n.key); letters++ {
		all = append(all, n.key.cuts(letters))
	}
	return n.first(all)
}

// Fit returns what is set of the name at an index in a column of some bytes.
func Fit(l []string, at, width int) (string, api.Errno) {
	n, e := beginLine(l, at)
	if e != api.OK {
		return "", e
	}
	if width < 1 {
		return "", api.ErrRange
	}
	if len(n.key) <= width {
		return string(n.key), api.OK
	}
	var all []iter.Seq[key]
	for letters := width - len(point); letters >= 1; letters-- {
		all = append(all, n.key.cuts(letters))
	}
	return n.first(all)
}
