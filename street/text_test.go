package street_test

import (
	"regexp"
	"strings"
	"testing"

	"wayzgoose/api"
	"wayzgoose/street"
)

// TestWriteAndRead is about P1.7: strings of valid plans.
func TestWriteAndRead(t *testing.T) {
	for _, c := range []struct{ plan, text string }{
		{exampleP, "[1 2 3 4 5][1 2][]\n"},
		{"1 2 2a 5||7", "[1 2 2a 5][][7]\n"},
		{"1a 1b 1c 1d", "[1a 1b 1c 1d]\n"},
		{"9 10 40 40d", "[9 10 40 40d]\n"},
		{"", "[]\n"},
		{"||", "[][][]\n"},
	} {
		text, e := street.Write(town(c.plan))
		if e != api.OK || text != c.text {
			t.Errorf("write %s: %q, error %d", c.plan, text, e)
		}
		p, n, e := street.Read(c.text)
		if e != api.OK || n != 0 || !samePlan(p, town(c.plan)) {
			t.Errorf("read %q: %v, %d, error %d", c.text, p, n, e)
		}
	}
	long := town("31a 32a 33a 34a 35a 36a 37a 38a|31a 32a 33a 34a 35a 36a 37a 38a|31a 32a 33a 34a 35a 36a 37a 38a")
	text, e := street.Write(long)
	p, _, f := street.Read(text)
	if e != api.OK || f != api.OK || len(text) != 34*3-2 || !samePlan(p, long) {
		t.Errorf("the longest plan: %q, errors %d %d", text, e, f)
	}
}

// TestReadErrors is about P1.7: what is wrong with a string, and where.
func TestReadErrors(t *testing.T) {
	full := strings.Repeat("[]", 60)
	for _, c := range []struct {
		text string
		at   int
		want api.Errno
	}{
		{"", 0, api.ErrForm},
		{"\n", 0, api.ErrForm},
		{"x", 0, api.ErrForm},
		{"]", 0, api.ErrForm},
		{"[", 1, api.ErrForm},
		{"[]", 2, api.ErrForm},
		{"[1", 2, api.ErrForm},
		{"[1a", 3, api.ErrForm},
		{"[12", 3, api.ErrForm},
		{"[1 ", 3, api.ErrForm},
		{"[1]", 3, api.ErrForm},
		{"[1][", 4, api.ErrForm},
		{"[1 02]", 3, api.ErrForm},
		{"[0]\n", 1, api.ErrForm},
		{"[00]\n", 1, api.ErrForm},
		{"[01]", 1, api.ErrForm},
		{"[123]\n", 3, api.ErrForm},
		{"[12ab]", 4, api.ErrForm},
		{"[1e]", 2, api.ErrForm},
		{"[1`]", 2, api.ErrForm},
		{"[1A]", 2, api.ErrForm},
		{"[:]\n", 1, api.ErrForm},
		{"[/]\n", 1, api.ErrForm},
		{"[1:]\n", 2, api.ErrForm},
		{"[1/]\n", 2, api.ErrForm},
		{"[1a2]", 3, api.ErrForm},
		{"[a]", 1, api.ErrForm},
		{"[ 1]", 1, api.ErrForm},
		{"[ ]", 1, api.ErrForm},
		{"[1 ]", 3, api.ErrForm},
		{"[1  2]", 3, api.ErrForm},
		{"[1\t2]", 2, api.ErrForm},
		{"[1,2]", 2, api.ErrForm},
		{"[1 a]", 3, api.ErrForm},
		{"[[", 1, api.ErrForm},
		{"[]]", 2, api.ErrForm},
		{"[] []\n", 2, api.ErrForm},
		{"[]1\n", 2, api.ErrForm},
		{"[]\r\n", 2, api.ErrForm},
		{"[\n", 1, api.ErrForm},
		{"[1\n", 2, api.ErrForm},
		{"[1]\n\n", 4, api.ErrForm},
		{"[1]\n[2]\n", 4, api.ErrForm},
		{"[1]\nx", 4, api.ErrForm},
		{"[-1]", 1, api.ErrForm},
		{"[+1]", 1, api.ErrForm},
		{"[1\xff]", 2, api.ErrForm},
		{"[\u0661]\n", 1, api.ErrForm},
		{"[41][2 1]x\n", 9, api.ErrForm},
		{"[41]\n", 0, api.ErrRange},
		{"[99d]\n", 0, api.ErrRange},
		{"[2 1]\n", 0, api.ErrOrder},
		{"[2 2]\n", 0, api.ErrOrder},
		{"[][][][]\n", 0, api.ErrFull},
		{"[1 2 3 4 5 6 7 8 9]\n", 0, api.ErrFull},
		{full, 120, api.ErrForm},
		{full[:118] + "]\n", 118, api.ErrForm},
		{full[:118] + "\n", 0, api.ErrFull},
		{full + "\n", 0, api.ErrLong},
		{strings.Repeat("x", 120), 0, api.ErrForm},
		{strings.Repeat("x", 121), 0, api.ErrLong},
	} {
		p, n, e := street.Read(c.text)
		if n != c.at || e != c.want || len(p.Streets) > 0 {
			t.Errorf("%q: %v, %d, error %d, want %d and %d", c.text, p, n, e, c.at, c.want)
		}
	}
}

var asSaid = regexp.MustCompile(`^(\[([1-9][0-9]?[a-d]?( [1-9][0-9]?[a-d]?)*)?\])+\n$`)

// begins reports whether a string that is as said begins with text.
func begins(text string) bool {
	for _, rest := range []string{"", "\n", "]\n", "1]\n", "[]\n"} {
		if asSaid.MatchString(text + rest) {
			return true
		}
	}
	return false
}

// wrongAt returns the index that Read returns with ErrForm, or -1.
func wrongAt(text string) int {
	if asSaid.MatchString(text) {
		return -1
	}
	for i := range len(text) {
		if !begins(text[:i+1]) {
			return i
		}
	}
	return len(text)
}

// TestAllStrings is P1.7 and P1.18 for all short strings of some bytes: the
// first byte that is wrong, and what is read is written as it was.
func TestAllStrings(t *testing.T) {
	var spell func(text string, most int)
	spell = func(text string, most int) {
		checkRead(t, text)
		// What follows a byte that is wrong does not matter.
		if at := wrongAt(text); at >= 0 && at < len(text)-1 || most == 0 {
			return
		}
		for _, b := range []byte("[] \n014ade") {
			spell(text+string(rune(b)), most-1)
		}
	}
	spell("", 8)
}

func checkRead(t *testing.T, text string) {
	t.Helper()
	p, n, e := street.Read(text)
	if at := wrongAt(text); at >= 0 {
		if e != api.ErrForm || n != at || len(p.Streets) > 0 {
			t.Fatalf("%q: %v, %d, error %d, want %d", text, p, n, e, at)
		}
		return
	}
	if e == api.OK {
		again, f := street.Write(p)
		if f != api.OK || n != 0 || again != text {
			t.Fatalf("%q: %v, %d, written as %q", text, p, n, again)
		}
		return
	}
	if e == api.ErrForm || e == api.ErrLong || n != 0 || len(p.Streets) > 0 {
		t.Fatalf("%q: %v, %d, error %d", text, p, n, e)
	}
}

// TestTexts is P1.18: a plan is read from its string.
func TestTexts(t *testing.T) {
	d := die{state: 18}
	for range 2000 {
		p := d.plan(8)
		text, e := street.Write(p)
		q, n, f := street.Read(text)
		if e != api.OK || f != api.OK || n != 0 || !samePlan(p, q) || !asSaid.MatchString(text) {
			t.Fatalf("%v: %q, %v, %d, errors %d %d", p, text, q, n, e, f)
		}
	}
}
