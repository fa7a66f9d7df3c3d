package proof

import (
	"cmp"
	"strconv"
	"strings"

	"wayzgoose/api"
)

const (
	signs  = "+=-" // the first bytes of marks, of the kinds from putIn on
	space  = " "   // between the number and the line of a mark
	stroke = "/"   // behind each mark
	mostAt = 99    // the greatest number that a slip can have
)

// checkWritten returns the first error of a mark that is to stand on a slip.
func checkWritten(m api.Mark) api.Errno {
	return cmp.Or(checkKind(m), checkNumber(m), checkText(m))
}

func checkNumber(m api.Mark) api.Errno {
	if m.At < 0 || m.At > mostAt {
		return api.ErrRange
	}
	return api.OK
}

// written returns the string of a mark that can stand on a slip.
func written(m api.Mark) string {
	sign := m.Kind - putIn
	text := signs[sign:sign+1] + strconv.Itoa(m.At)
	if m.Kind != takeOut {
		text += space + m.Text
	}
	return text + stroke
}

// Write returns the slip of marks.
func Write(l []api.Mark) (string, api.Errno) {
	if e := checkAll(l, api.MaxMarks, checkWritten); e != api.OK {
		return "", e
	}
	var b strings.Builder
	for _, m := range l {
		b.WriteString(written(m))
	}
	return b.String(), api.OK
}

// wrongMark is the error of a slip on which the mark with a number is not as
// said.
type wrongMark struct{ number int }

func (w wrongMark) Error() string { return "wayzgoose: wrong mark " + strconv.Itoa(w.number) }

// reader reads a slip mark by mark.
type reader struct {
	api.Mark        // the one that was read last
	rest     string // what stands behind it
}

// next reads the next mark and reports whether it is as said.
func (r *reader) next() bool {
	text, rest, ended := strings.Cut(r.rest, stroke)
	if !ended || text == "" {
		return false
	}
	number, line, spaced := strings.Cut(text[1:], space)
	at, err := strconv.Atoi(number)
	// What is no sign has the index -1, and stay is no kind of a mark.
	r.Kind, r.At, r.Text = strings.IndexByte(signs, text[0])+putIn, at, line
	r.rest = rest
	// A number with needless zeros, or with a sign, is written in another way.
	return err == nil && strconv.Itoa(at) == number && spaced == (r.Kind != takeOut) && checkWritten(r.Mark) == api.OK
}

// parse returns the marks of a slip, or panics with wrongMark.
func parse(text string) []api.Mark {
	var l []api.Mark
	r := reader{rest: text}
	for r.rest != "" {
		if !r.next() {
			panic(wrongMark{len(l)})
		}
		l = append(l, r.Mark)
	}
	return l
}

// Read returns the marks of a slip, or the number of the mark that is wrong.
func Read(text string) (l []api.Mark, at int, e api.Errno) {
	if len(text) > api.MaxSlip {
		return nil, 0, api.ErrLong
	}
	defer func() {
		x := recover()
		if x == nil {
			return
		}
		wrong, ok := x.(wrongMark)
		if !ok {
			panic(x)
		}
		l, at, e = nil, wrong.number, api.ErrForm
	}()
	l = parse(text)
	if len(l) > api.MaxMarks {
		return nil, 0, api.ErrFull
	}
	return l, 0, api.OK
}
