package trade

import (
	"errors"
	"slices"
	"strconv"
	"strings"

	"wayzgoose/api"
)

// The words that tell the parts of a line apart, and the last line.
const (
	keyClass = "class"
	keyIn    = "in"
	keyIs    = "is"
	keySee   = "see"
	keyAlso  = "also"
	lastLine = "finis"
)

// Write returns the string of trades.
func Write(t api.Trades) (string, api.Errno) {
	if e := Check(t); e != api.OK {
		return "", e
	}
	var b strings.Builder
	for _, c := range t.Classes {
		b.WriteString(classLine(t, c) + "\n")
	}
	for _, h := range t.Heads {
		b.WriteString(headLine(t, h) + "\n")
	}
	b.WriteString(lastLine + "\n")
	return b.String(), api.OK
}

// classLine returns the line of a class of valid trades.
func classLine(t api.Trades, c api.Class) string {
	line := keyClass + " " + c.Name
	if c.Under != none {
		line += " " + keyIn + " " + t.Classes[c.Under].Name
	}
	return line
}

// headLine returns the line of a heading of valid trades.
func headLine(t api.Trades, h api.Head) string {
	line := h.Word
	if h.Class != none {
		line += " " + keyIs + " " + t.Classes[h.Class].Name
	}
	if h.See != none {
		line += " " + keySee + " " + t.Heads[h.See].Word
	}
	if len(h.Also) > 0 {
		line += " " + keyAlso
	}
	for _, to := range h.Also {
		line += " " + t.Heads[to].Word
	}
	return line
}

// Read returns the trades of a string, or the number of the line that is wrong.
func Read(text string) (t api.Trades, line int, e api.Errno) {
	if len(text) > api.MaxTrades {
		return api.Trades{}, 0, api.ErrLong
	}
	t, err := parse(text)
	var wrong wrongLine
	if errors.As(err, &wrong) {
		return api.Trades{}, wrong.number, wrong.code
	}
	if e := Check(t); e != api.OK {
		return api.Trades{}, 0, e
	}
	return t, 0, api.OK
}

// wrongLine is the error of a line that is not as said, or has a name that
// means nothing.
type wrongLine struct {
	number int
	code   api.Errno
}

func (w wrongLine) Error() string {
	return "wayzgoose: wrong line " + strconv.Itoa(w.number) + ": " + w.code.Error()
}

// parse returns the trades of a string, which need not be valid.
func parse(text string) (api.Trades, error) {
	var d draft
	for number := 1; ; number++ {
		line, rest, ended := strings.Cut(text, "\n")
		switch {
		case !ended:
			return api.Trades{}, wrongLine{number, api.ErrForm}
		case line == lastLine && rest == "":
			return d.trades()
		case line == lastLine:
			return api.Trades{}, wrongLine{number + 1, api.ErrForm}
		case !d.take(line):
			return api.Trades{}, wrongLine{number, api.ErrForm}
		}
		text = rest
	}
}

// row is a line that is as said, with names instead of numbers; no name is the
// empty string.
type row struct {
	name, class, see string
	also             []string
}

// form is how a line can go on behind the name of its class or heading.
type form struct {
	heading bool                            // whether it is a line of a heading
	read    func(rest []string) (row, bool) // reads the parts behind the name
}

// forms returns the forms by the first part behind the name.
func forms() map[string]form {
	return map[string]form{
		"":      {false, readNothing},
		keyIn:   {false, readClass},
		keyIs:   {true, readTrade},
		keySee:  {true, readPointer},
		keyAlso: {true, readReferences},
	}
}

func readNothing(rest []string) (row, bool) { return row{}, true }

func readClass(rest []string) (row, bool) {
	if len(rest) != 2 {
		return row{}, false
	}
	return row{class: rest[1]}, true
}

func readTrade(rest []string) (row, bool) {
	if len(rest) <= 2 {
		return readClass(rest)
	}
	r, ok := readReferences(rest[2:])
	r.class = rest[1]
	return r, ok && rest[2] == keyAlso
}

func readPointer(rest []string) (row, bool) {
	if len(rest) != 2 {
		return row{}, false
	}
	return row{see: rest[1]}, true
}

func readReferences(rest []string) (row, bool) {
	if len(rest) < 2 {
		return row{}, false
	}
	return row{also: rest[1:]}, true
}

// draft is trades whose lines are being read.
type draft struct{ classes, heads []row }

// take reads the next line and reports whether it is as said.
func (d *draft) take(line string) bool {
	line, isClass := strings.CutPrefix(line, keyClass+" ")
	parts := strings.Split(line, " ")
	// Those that tell the parts apart are words, too.
	if slices.ContainsFunc(parts, func(part string) bool { return !isWord(part) }) {
		return false
	}
	key := ""
	if len(parts) > 1 {
		key = parts[1]
	}
	f, ok := forms()[key]
	if !ok || f.heading == isClass || isClass && len(d.heads) > 0 {
		return false
	}
	r, ok := f.read(parts[1:])
	if !ok {
		return false
	}
	r.name = parts[0]
	if isClass {
		d.classes = append(d.classes, r)
	} else {
		d.heads = append(d.heads, r)
	}
	return true
}

// trades returns the trades with numbers instead of names.
func (d *draft) trades() (api.Trades, error) {
	var t api.Trades
	classes, heads := numbersOf(d.classes), numbersOf(d.heads)
	for i, r := range d.classes {
		under, ok := classes[r.class]
		if !ok {
			return api.Trades{}, wrongLine{i + 1, api.ErrNoSuch}
		}
		t.Classes = append(t.Classes, api.Class{Name: r.name, Under: under})
	}
	for i, r := range d.heads {
		h, ok := r.head(classes, heads)
		if !ok {
			return api.Trades{}, wrongLine{len(d.classes) + i + 1, api.ErrNoSuch}
		}
		t.Heads = append(t.Heads, h)
	}
	return t, nil
}

// numbersOf returns the number of the first row with each name, none for no
// name.
func numbersOf(rows []row) map[string]int {
	numbers := map[string]int{"": none}
	for i, r := range rows {
		if _, ok := numbers[r.name]; !ok {
			numbers[r.name] = i
		}
	}
	return numbers
}

// head returns the heading of a row, and false if one of its names means
// nothing.
func (r row) head(classes, heads map[string]int) (api.Head, bool) {
	class, isClass := classes[r.class]
	see, isHead := heads[r.see]
	h := api.Head{Word: r.name, Class: class, See: see}
	for _, word := range r.also {
		to, ok := heads[word]
		if !ok {
			return api.Head{}, false
		}
		h.Also = append(h.Also, to)
	}
	return h, isClass && isHead
}
