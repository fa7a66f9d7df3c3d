package trade_test

import (
	"regexp"
	"slices"
	"strings"
	"testing"

	"wayzgoose/api"
	"wayzgoose/trade"
)

// lines returns the lines of a text in which there is a semicolon between each
// two, each ended by a line feed.
func lines(text string) string {
	return strings.ReplaceAll(text, "; ", "\n") + "\n"
}

// TestWrite is about P4.8: strings of trades.
func TestWrite(t *testing.T) {
	for _, c := range []struct{ t, want string }{
		{exampleT, exampleT + "; finis"},
		{"", "finis"},
		{"class x", "class x; finis"},
		{"class x; class y in x; class z in y; a is z", "class x; class y in x; class z in y; a is z; finis"},
		{"class food; baker is food; chandler is food; grocer is food also baker chandler", "class food; baker is food; chandler is food; grocer is food also baker chandler; finis"},
		{"class x; baker is x; grocer is x; shops also baker grocer", "class x; baker is x; grocer is x; shops also baker grocer; finis"},
		{"bonnets see hats; hats see bonnets", "bonnets see hats; hats see bonnets; finis"},
	} {
		text, e := trade.Write(list(c.t))
		if text != lines(c.want) || e != api.OK {
			t.Errorf("%s: %q, error %d", c.t, text, e)
		}
		u, n, e := trade.Read(lines(c.want))
		if !same(u, list(c.t)) || n != 0 || e != api.OK {
			t.Errorf("%s: %v, %d, error %d", c.want, u, n, e)
		}
	}
	for _, c := range checks() {
		if text, e := trade.Write(c.t); e != c.want || e != api.OK && text != "" {
			t.Errorf("%v: %q, error %d, want %d", c.t, text, e, c.want)
		}
	}
}

// TestWordsOfLines is about P4.8: the words that tell the parts of a line apart
// can be names, too.
func TestWordsOfLines(t *testing.T) {
	given := api.Trades{
		Classes: []api.Class{{Name: "in", Under: -1}, {Name: "is", Under: 0}, {Name: "also", Under: -1}, {Name: "see", Under: 2}},
		Heads: []api.Head{
			{Word: "also", Class: -1, See: -1, Also: []int{1, 2, 3}},
			{Word: "in", Class: -1, See: 3},
			{Word: "is", Class: 1, See: -1, Also: []int{0, 3}},
			{Word: "see", Class: 2, See: -1},
		},
	}
	want := lines("class in; class is in in; class also; class see in also; also also in is see; in see see; is is is also also see; see is also; finis")
	text, e := trade.Write(given)
	if text != want || e != api.OK {
		t.Errorf("written: %q, error %d", text, e)
	}
	u, n, e := trade.Read(want)
	if !same(u, given) || n != 0 || e != api.OK {
		t.Errorf("read: %v, %d, error %d", u, n, e)
	}
}

// TestLongest is about P4.8: the longest string of trades is read again.
func TestLongest(t *testing.T) {
	var given api.Trades
	for i := range 6 {
		word := strings.Repeat("z", 11) + string(rune('a'+i))
		h := api.Head{Word: word, Class: 5, See: -1}
		for j := range 6 {
			if j != i {
				h.Also = append(h.Also, j)
			}
		}
		given.Classes = append(given.Classes, api.Class{Name: word, Under: i - 1})
		given.Heads = append(given.Heads, h)
	}
	text, e := trade.Write(given)
	u, _, f := trade.Read(text)
	if e != api.OK || f != api.OK || len(text) != 794 || !same(u, given) {
		t.Errorf("%q (%d bytes), errors %d %d", text, len(text), e, f)
	}
}

// TestReadErrors is about P4.8: what is wrong with a string, and in which line.
func TestReadErrors(t *testing.T) {
	long := strings.Repeat("class x\n", 111) + "finis\n"
	for _, c := range []struct {
		text string
		line int
		want api.Errno
	}{
		// Lines that are missing, or not ended.
		{"", 1, api.ErrForm},
		{"\n", 1, api.ErrForm},
		{"finis", 1, api.ErrForm},
		{"finis\r\n", 1, api.ErrForm},
		{"class x\n", 2, api.ErrForm},
		{"class x", 1, api.ErrForm},
		{"class x\nfinis", 2, api.ErrForm},
		{"class x\nfini\n", 2, api.ErrForm},
		{"class x\na is x\n", 3, api.ErrForm},
		{"class x\na is", 2, api.ErrForm},
		{"finis\n\n", 2, api.ErrForm},
		{"finis\nfinis\n", 2, api.ErrForm},
		{"finis\nclass x\nfinis\n", 2, api.ErrForm},
		{"class x\nfinis\na is x\n", 3, api.ErrForm},
		{"class x\nfinis\na", 3, api.ErrForm},
		{"class x\n\nfinis\n", 2, api.ErrForm},
		{" finis\n", 1, api.ErrForm},
		{"finis \n", 1, api.ErrForm},
		{"Finis\n", 1, api.ErrForm},
		// Classes
		{"class\nfinis\n", 1, api.ErrForm},
		{"class \nfinis\n", 1, api.ErrForm},
		{"class class\nfinis\n", 1, api.ErrForm},
		{"class finis\nfinis\n", 1, api.ErrForm},
		{"class x y\nfinis\n", 1, api.ErrForm},
		{"class x in\nfinis\n", 1, api.ErrForm},
		{"class x in \nfinis\n", 1, api.ErrForm},
		{"class x in y z\nfinis\n", 1, api.ErrForm},
		{"class x in class\nfinis\n", 1, api.ErrForm},
		{"class x is x\nfinis\n", 1, api.ErrForm},
		{"class x see x\nfinis\n", 1, api.ErrForm},
		{"class x also x\nfinis\n", 1, api.ErrForm},
		{"class x\nclass y IN x\nfinis\n", 2, api.ErrForm},
		{"class x \nfinis\n", 1, api.ErrForm},
		{"class  x\nfinis\n", 1, api.ErrForm},
		{" class x\nfinis\n", 1, api.ErrForm},
		{"class\tx\nfinis\n", 1, api.ErrForm},
		{"Class x\nfinis\n", 1, api.ErrForm},
		{"class X\nfinis\n", 1, api.ErrForm},
		{"class abcdefghijklm\nfinis\n", 1, api.ErrForm},
		{"class x\na is x\nclass y\nfinis\n", 3, api.ErrForm},
		{"class x\na is nobody\nclass y\nfinis\n", 3, api.ErrForm},
		// Headings
		{"a\nfinis\n", 1, api.ErrForm},
		{"a in x\nfinis\n", 1, api.ErrForm},
		{"a x\nfinis\n", 1, api.ErrForm},
		{"a is\nfinis\n", 1, api.ErrForm},
		{"a is \nfinis\n", 1, api.ErrForm},
		{"a  is x\nfinis\n", 1, api.ErrForm},
		{"a is  x\nfinis\n", 1, api.ErrForm},
		{"a is x \nfinis\n", 1, api.ErrForm},
		{"a is x y\nfinis\n", 1, api.ErrForm},
		{"a is x y z\nfinis\n", 1, api.ErrForm},
		{"a is x also\nfinis\n", 1, api.ErrForm},
		{"a is x also \nfinis\n", 1, api.ErrForm},
		{"a is x also b  c\nfinis\n", 1, api.ErrForm},
		{"a is x also b finis\nfinis\n", 1, api.ErrForm},
		{"a is x see b\nfinis\n", 1, api.ErrForm},
		{"a is class\nfinis\n", 1, api.ErrForm},
		{"a see\nfinis\n", 1, api.ErrForm},
		{"a see b c\nfinis\n", 1, api.ErrForm},
		{"a see b also c\nfinis\n", 1, api.ErrForm},
		{"a see finis\nfinis\n", 1, api.ErrForm},
		{"a also\nfinis\n", 1, api.ErrForm},
		{"a also \nfinis\n", 1, api.ErrForm},
		{"a also b class\nfinis\n", 1, api.ErrForm},
		{"a class x\nfinis\n", 1, api.ErrForm},
		{"finis is x\nfinis\n", 1, api.ErrForm},
		{"a is x,\nfinis\n", 1, api.ErrForm},
		{"a is \xff\nfinis\n", 1, api.ErrForm},
		{"a1 is x\nfinis\n", 1, api.ErrForm},
		{"abcdefghijklm is x\nfinis\n", 1, api.ErrForm},
		{"class x\na see b\nb see\nfinis\n", 3, api.ErrForm},
		// Names that mean nothing.
		{"class x in y\nfinis\n", 1, api.ErrNoSuch},
		{"class x\nclass y in a\na is x\nfinis\n", 2, api.ErrNoSuch},
		{"class x\na is a\nfinis\n", 2, api.ErrNoSuch},
		{"class x\na see x\nfinis\n", 2, api.ErrNoSuch},
		{"class x\na also x\nfinis\n", 2, api.ErrNoSuch},
		{"class x\na is x also a b\nfinis\n", 2, api.ErrNoSuch},
		{"class x\na is y also b\nb is x\nfinis\n", 2, api.ErrNoSuch},
		{"class x\nb is x\na see b\nc see d\nfinis\n", 4, api.ErrNoSuch},
		{"class x in x\nb also c\nc see d\nclass\n", 4, api.ErrForm},
		{"class x in x\nb also c\nc see d\nfinis\n", 3, api.ErrNoSuch},
		// The errors of the trades.
		{"class a\nclass b\nclass c\nclass d\nclass e\nclass f\nclass g\nfinis\n", 0, api.ErrFull},
		{"class x\nclass x\nfinis\n", 0, api.ErrRepeated},
		{"class x in x\nfinis\n", 0, api.ErrOrder},
		{"class x in y\nclass y\nfinis\n", 0, api.ErrOrder},
		{"class x\na is x\na is x\nfinis\n", 0, api.ErrRepeated},
		{"class x\nb is x\na is x\nfinis\n", 0, api.ErrOrder},
		{"a see a\nfinis\n", 0, api.ErrClash},
		{"class x\na also c b\nb is x\nc is x\nfinis\n", 0, api.ErrOrder},
		{"class x\na also b b\nb is x\nfinis\n", 0, api.ErrOrder},
		{"class x\na is x also a\nfinis\n", 0, api.ErrClash},
		// A name means the first heading, or class, that has it.
		{"class x\na see b\nb is x\nb is x\nfinis\n", 0, api.ErrRepeated},
		{"class x\nb is x\na see b\nb see a\nfinis\n", 0, api.ErrOrder},
		{"class x\na see b\nb is x\nb see b\nfinis\n", 0, api.ErrRepeated},
		{"class y in x\nclass x\nclass x in y\nfinis\n", 0, api.ErrOrder},
		{"class x\nclass x in x\nfinis\n", 0, api.ErrRepeated},
		{"class x\nclass y in x\nclass x\nfinis\n", 0, api.ErrRepeated},
		{"class x\na is x also b a\nb is x\na is x\nfinis\n", 0, api.ErrClash},
		{"class x\na see b\nb is x also a\na is x\nfinis\n", 0, api.ErrRepeated},
		// Strings that are too long.
		{long[:888] + "class abcde\n", 113, api.ErrForm},
		{long[:888] + "class\nfinis\n", 112, api.ErrForm},
		{long[:888] + "finis\n", 0, api.ErrFull},
		{long[:880] + "class abcdef\nfinis\n", 0, api.ErrFull},
		{long[:880] + "class abcdefg\nfinis\n", 0, api.ErrFull},
		{long[:880] + "class abcdefgh\nfinis\n", 0, api.ErrLong},
		{strings.Repeat("x", 900), 1, api.ErrForm},
		{strings.Repeat("x", 901), 0, api.ErrLong},
		{strings.Repeat("\n", 901), 0, api.ErrLong},
	} {
		u, n, e := trade.Read(c.text)
		if n != c.line || e != c.want || len(u.Classes) > 0 || len(u.Heads) > 0 {
			t.Errorf("%q: %v, %d, error %d, want %d and %d", c.text, u, n, e, c.line, c.want)
		}
	}
}

var (
	asClass = regexp.MustCompile(`^class [a-z]{1,12}( in [a-z]{1,12})?$`)
	asHead  = regexp.MustCompile(`^[a-z]{1,12} (is [a-z]{1,12}|(is [a-z]{1,12} )?also [a-z]{1,12}( [a-z]{1,12})*|see [a-z]{1,12})$`)
	notWord = regexp.MustCompile(`\b(class|finis)\b`)
)

// wrongForm returns the number of the first line that is not as said, 0 if
// there is none.
func wrongForm(text string) int {
	rows := strings.Split(text, "\n")
	heads := false
	for i, row := range rows {
		if i == len(rows)-1 {
			return i + 1
		}
		switch isHead := asHead.MatchString(row) && !notWord.MatchString(row); {
		case row == "finis" && i == len(rows)-2 && rows[i+1] == "":
			return 0
		case row == "finis":
			return i + 2
		case isHead:
			heads = true
		case heads, !asClass.MatchString(row), notWord.MatchString(row[len("class "):]):
			return i + 1
		}
	}
	return len(rows) + 1
}

// wrongName returns the number of the first line of a text that is as said with
// a name that means nothing, 0 if there is none.
func wrongName(text string) int {
	rows := strings.Split(strings.TrimSuffix(text, "finis\n"), "\n")
	var names, words []string
	for _, row := range rows {
		if row = strings.TrimSpace(row); asClass.MatchString(row) {
			names = append(names, strings.Fields(row)[1])
		} else if row != "" {
			words = append(words, strings.Fields(row)[0])
		}
	}
	for i, row := range rows {
		parts := strings.Fields(row)
		if len(parts) == 0 {
			continue
		}
		if parts[0] == "class" {
			parts = parts[1:]
		}
		for len(parts) > 2 && (parts[1] == "in" || parts[1] == "is") {
			if !slices.Contains(names, parts[2]) {
				return i + 1
			}
			parts = parts[2:]
		}
		if len(parts) > 2 && slices.ContainsFunc(parts[2:], func(word string) bool { return !slices.Contains(words, word) }) {
			return i + 1
		}
	}
	return 0
}

// checkRead is about P4.8 and P4.21 for one string.
func checkRead(t *testing.T, text string) {
	t.Helper()
	u, n, e := trade.Read(text)
	if e == api.OK {
		again, f := trade.Write(u)
		if f != api.OK || n != 0 || again != text {
			t.Fatalf("%q: %v, %d, written as %q, error %d", text, u, n, again, f)
		}
	}
	want, due := wrongForm(text), api.ErrForm
	if want == 0 {
		want, due = wrongName(text), api.ErrNoSuch
	}
	if want > 0 && (n != want || e != due) {
		t.Fatalf("%q: %d, error %d, want %d, error %d", text, n, e, want, due)
	}
	if want == 0 && (n != 0 || e == api.ErrForm || e == api.ErrNoSuch) {
		t.Fatalf("%q: %d, error %d", text, n, e)
	}
}

// TestAllTexts is P4.8 and P4.21 for all texts of a few lines out of some: the
// first line that is wrong, and what is read is written as it was.
func TestAllTexts(t *testing.T) {
	rows := []string{
		"class x\n", "class x in y\n", "class y in x\n", "class y\n", "class class\n", "a is x\n", "a is y also b\n", "a see b\n",
		"b also a\n", "b is x also a b\n", "b see a\n", "b also\n", "class\n", "in\n", "\n", "finis\n", "finis",
	}
	var spell func(text string, most int)
	spell = func(text string, most int) {
		checkRead(t, text)
		if most == 0 {
			return
		}
		for _, row := range rows {
			spell(text+row, most-1)
		}
	}
	spell("", 5)
}

// TestAllLines is P4.8 for all short lines of some parts.
func TestAllLines(t *testing.T) {
	var spell func(line string, most int)
	spell = func(line string, most int) {
		checkRead(t, line)
		checkRead(t, line+"\nfinis\n")
		checkRead(t, "class a\n"+line+"\na is a\nfinis\n")
		if most == 0 {
			return
		}
		for _, part := range []string{"class", "in", "is", "see", "also", "finis", "a", "", "A"} {
			spell(line+" "+part, most-1)
		}
	}
	for _, part := range []string{"class", "in", "is", "finis", "a", ""} {
		spell(part, 4)
	}
}

// TestTexts is P4.21: trades are read from their text.
func TestTexts(t *testing.T) {
	d := die{state: 421}
	for range 3000 {
		given := d.trades(6)
		text, e := trade.Write(given)
		u, n, f := trade.Read(text)
		if e != api.OK || f != api.OK || n != 0 || !same(u, given) {
			t.Fatalf("%v: %q, %v, %d, errors %d %d", given, text, u, n, e, f)
		}
		if at := d.throw(len(text)); d.throw(2) == 0 {
			checkRead(t, text[:at]+text[at+1:])
		} else {
			checkRead(t, text[:at]+string("\n asx"[d.throw(5)])+text[at:])
		}
	}
}
