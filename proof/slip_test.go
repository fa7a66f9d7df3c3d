package proof_test

import (
	"regexp"
	"slices"
	"strings"
	"testing"

	"wayzgoose/api"
	"wayzgoose/proof"
)

// TestWrite is P7.7: the examples of Write, other ones, and its errors.
func TestWrite(t *testing.T) {
	one := func(kind, at int, text string) []api.Mark { return []api.Mark{{Kind: kind, At: at, Text: text}} }
	for _, c := range []struct {
		l    []api.Mark
		want string
		e    api.Errno
	}{
		{marks(exampleM), "+1 bea/=2 cid/", api.OK},
		{nil, "", api.OK},
		{marks("+1 bea, =2 cid, -5"), "+1 bea/=2 cid/-5/", api.OK},
		{marks("-0, +10 a b, =99 0123456789"), "-0/+10 a b/=99 0123456789/", api.OK},
		// Whether marks are valid for a page does not matter.
		{marks("=9 a, -9, -0, +9 a"), "=9 a/-9/-0/+9 a/", api.OK},
		{slices.Repeat(marks("-5"), 12), strings.Repeat("-5/", 12), api.OK},
		{slices.Repeat(marks("-5"), 13), "", api.ErrFull},
		{make([]api.Mark, 13), "", api.ErrFull},
		{one(0, 100, ""), "", api.ErrKind},
		{one(-1, 0, "a"), "", api.ErrKind},
		{one(4, -1, "a"), "", api.ErrKind},
		{one(1<<62, 0, "a"), "", api.ErrKind},
		{one(api.MarkIn, -1, ""), "", api.ErrRange},
		{one(api.MarkIn, 100, ""), "", api.ErrRange},
		{one(api.MarkSet, 100, "a"), "", api.ErrRange},
		{one(api.MarkOut, 100, "x"), "", api.ErrRange},
		{one(api.MarkOut, -1<<63, ""), "", api.ErrRange},
		{one(api.MarkOut, 99, "x"), "", api.ErrForm},
		{one(api.MarkOut, 0, "abcdefghijk"), "", api.ErrForm},
		{append(marks("+1 a"), append(one(api.MarkOut, 0, "x"), one(0, 0, "")...)...), "", api.ErrForm},
		{append(marks("+1 a"), append(one(0, 0, ""), one(api.MarkOut, 0, "x")...)...), "", api.ErrKind},
	} {
		text, e := proof.Write(c.l)
		mustBe(t, c.want, e, c.e)
		if text != c.want {
			t.Errorf("%v: %q, want %q", c.l, text, c.want)
		}
	}
	for _, c := range badLines() {
		for _, kind := range []int{api.MarkIn, api.MarkSet} {
			_, e := proof.Write(one(kind, 99, c.line))
			mustBe(t, c.line, e, c.want)
			_, e = proof.Write(one(kind, 100, c.line))
			mustBe(t, "100 "+c.line, e, api.ErrRange)
		}
	}
}

// TestRead is P7.7: the examples of Read, and other ones.
func TestRead(t *testing.T) {
	for _, c := range []struct{ text, want string }{
		{"", ""},
		{"+1 bea/=2 cid/", exampleM},
		{"+1 bea/=2 cid/-5/", "+1 bea, =2 cid, -5"},
		{"-0/-10/-99/-9/", "-0, -10, -99, -9"},
		{"+0 a b c/=99 0/", "+0 a b c, =99 0"},
		{"=3 a/-3/+3 a/", "=3 a, -3, +3 a"},
		{"+7 0  9/", "+7 0  9"},
		{strings.Repeat("-5/", 12), strings.Repeat("-5, ", 11) + "-5"},
	} {
		l, at, e := proof.Read(c.text)
		mustBe(t, c.text, e, api.OK)
		mustEqual(t, c.text, l, marks(c.want))
		if at != 0 {
			t.Errorf("%s: %d", c.text, at)
		}
	}
}

// TestReadErrors is P7.7: what is wrong with a slip, and at which mark.
func TestReadErrors(t *testing.T) {
	type wrong struct {
		text string
		at   int
		want api.Errno
	}
	all := []wrong{
		{"+1 bea/-2 x/", 1, api.ErrForm},
		{"-1", 0, api.ErrForm},
		// What stands behind the last stroke is no mark.
		{"-1/-2", 1, api.ErrForm},
		{"-1/ ", 1, api.ErrForm},
		{"-1/\n", 1, api.ErrForm},
		{"-1/-2/+3 a/+", 3, api.ErrForm},
		// As many marks as there can be, or more.
		{strings.Repeat("-5/", 13), 0, api.ErrFull},
		{strings.Repeat("-5/", 53), 0, api.ErrFull},
		{strings.Repeat("-5/", 12) + "-5", 12, api.ErrForm},
		{strings.Repeat("-5/", 13) + "x/", 13, api.ErrForm},
		{strings.Repeat("-5/", 52) + "-5//", 52 + 1, api.ErrForm},
		{strings.Repeat("-5/", 53) + "-", 53, api.ErrForm},
		{strings.Repeat("-5/", 53) + "-5", 0, api.ErrLong},
		{strings.Repeat("x", 160), 0, api.ErrForm},
		{strings.Repeat("x", 161), 0, api.ErrLong},
		{strings.Repeat("-5/", 54), 0, api.ErrLong},
	}
	for _, mark := range []string{
		"", "1", "x", "+", "=", "-", " ", "1 a", "*1 a", " +1 a", "\x00", "é1 a",
		"-x", "- 1", "-1 ", "-1 a", "-1a", "--1", "-+1", "-00", "-01", "-010", "-100", "-999", "-1.", "-1 1", "-１",
		"+1", "+1 ", "+1a", "+a", "+ a", "+ 1 a", "++1 a", "+-1 a", "+-0 a", "+00 a", "+01 a", "+100 a", "+1  a", "+1 a ", "+1\ta", "+1_0 a", "+0x1 a",
		"+99999999999999999999 a", "-99999999999999999999",
		"=1", "=1 ", "=1a", "=a", "=01 a", "=100 a", "=1  a", "=1 a ", "=1 A", "=1 =", "=1 a-b", "=1 abcdefghijk", "=1 é", "=1 a\n",
		"+1 A", "+1 +", "+1 a+b", "+1 abcdefghijk", "+1 é", "+1 a\n",
	} {
		all = append(all,
			wrong{mark + "/", 0, api.ErrForm},
			wrong{"-1/" + mark + "/", 1, api.ErrForm},
			wrong{"+1 a/=2 b/" + mark + "/-x/", 2, api.ErrForm},
			wrong{strings.Repeat("-5/", 14) + mark + "/", 14, api.ErrForm},
		)
	}
	for _, c := range all {
		l, at, e := proof.Read(c.text)
		mustBe(t, c.text, e, c.want)
		if at != c.at || len(l) > 0 {
			t.Errorf("%q: %v and %d, want %d", c.text, l, at, c.at)
		}
	}
}

// slip returns marks of all kinds with all numbers that can be on a slip. Some
// slips have long lines only.
func (d *die) slip() []api.Mark {
	var l []api.Mark
	isLong := d.throw(5) == 0
	for range d.throw(api.MaxMarks + 1) {
		m := api.Mark{Kind: pick(d, api.MarkIn, api.MarkSet, api.MarkOut), At: pick(d, d.throw(7), d.throw(100))}
		if isLong && m.Kind == api.MarkOut {
			m.Kind = api.MarkSet
		}
		if isLong {
			m.Text = "0123456789"
		} else if m.Kind != api.MarkOut {
			m.Text = d.line(20)
		}
		l = append(l, m)
	}
	return l
}

// TestWriteAndRead is P7.17: marks are read from their slip, if it is not longer
// than slips that are read.
func TestWriteAndRead(t *testing.T) {
	d := die{state: 7}
	m := met{}
	for range 5000 {
		l := d.slip()
		text, e := proof.Write(l)
		mustBe(t, "Write", e, api.OK)
		got, at, e := proof.Read(text)
		if len(text) > api.MaxSlip {
			mustBe(t, text, e, api.ErrLong)
			m["long"]++
			continue
		}
		mustBe(t, text, e, api.OK)
		mustEqual(t, text, got, l)
		if at != 0 {
			t.Errorf("%s: %d", text, at)
		}
		if len(l) == api.MaxMarks {
			m["all marks"]++
		}
	}
	m.mustAll(t, 50, "long", "all marks")
	longest := slices.Repeat([]api.Mark{{Kind: api.MarkSet, At: 10, Text: "0123456789"}}, api.MaxMarks)
	if text, e := proof.Write(longest); e != api.OK || len(text) != 180 {
		t.Errorf("%q, error %d", text, e)
	}
}

// wrongAt returns the number of the first mark of a slip that is not as said,
// -1 if there is none.
func wrongAt(text string) int {
	const number = `(0|[1-9][0-9]?)`
	mark := regexp.MustCompile(`\A(-` + number + `|[+=]` + number + ` [a-z0-9]([a-z0-9 ]{0,8}[a-z0-9])?)\z`)
	l := strings.Split(text, "/")
	last := len(l) - 1
	for i, x := range l[:last] {
		if !mark.MatchString(x) {
			return i
		}
	}
	if l[last] != "" {
		return last
	}
	return -1
}

// TestReadAndWrite is P7.7 and P7.17: what is read is written as it was, and what
// is not as said is told: slips are thrown in which some bytes are wrong.
func TestReadAndWrite(t *testing.T) {
	d := die{state: 77}
	m := met{}
	for range 10000 {
		text, e := proof.Write(d.slip())
		mustBe(t, "Write", e, api.OK)
		bytes := []byte(text)
		for range d.throw(4) {
			at := d.throw(len(bytes) + 1)
			switch some := "+=-/0123 azA\n"; {
			case d.throw(2) == 0:
				bytes = slices.Insert(bytes, at, some[d.throw(len(some))])
			case at < len(bytes) && d.throw(2) == 0:
				bytes[at] = some[d.throw(len(some))]
			case at < len(bytes):
				bytes = slices.Delete(bytes, at, at+1)
			}
		}
		text = string(bytes)
		l, at, e := proof.Read(text)
		wrong := wrongAt(text)
		switch {
		case len(text) > api.MaxSlip:
			mustBe(t, text, e, api.ErrLong)
			wrong = 0
		case wrong >= 0:
			mustBe(t, text, e, api.ErrForm)
			m["wrong"]++
		case strings.Count(text, "/") > api.MaxMarks:
			mustBe(t, text, e, api.ErrFull)
			wrong = 0
		default:
			mustBe(t, text, e, api.OK)
			wrong = 0
			again, e := proof.Write(l)
			mustBe(t, "Write", e, api.OK)
			if again != text {
				t.Errorf("%q is written as %q", text, again)
			}
			m["right"]++
		}
		if at != wrong {
			t.Errorf("%q: %d, want %d", text, at, wrong)
		}
	}
	m.mustAll(t, 500, "wrong", "right")
}
