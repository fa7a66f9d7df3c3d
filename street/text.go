package street

import (
	"errors"
	"strconv"
	"strings"

	"wayzgoose/api"
)

// Write returns the string of a plan.
func Write(p api.Plan) (string, api.Errno) {
	if e := Check(p); e != api.OK {
		return "", e
	}
	var b strings.Builder
	for _, row := range p.Streets {
		var words []string
		for _, x := range row {
			words = append(words, plate(x).text())
		}
		b.WriteString("[" + strings.Join(words, " ") + "]")
	}
	b.WriteString("\n")
	return b.String(), api.OK
}

// text returns the string of a valid plate.
func (x plate) text() string {
	s := strconv.Itoa(x.Number)
	if x.Letter > 0 {
		s += string(rune('a' + x.Letter - 1))
	}
	return s
}

// Read returns the plan of a string, or the index of the byte that is wrong.
func Read(text string) (p api.Plan, at int, e api.Errno) {
	if len(text) > api.MaxPlanText {
		return api.Plan{}, 0, api.ErrLong
	}
	p, err := parse(text)
	var wrong wrongByte
	if errors.As(err, &wrong) {
		return api.Plan{}, wrong.at, api.ErrForm
	}
	if e := Check(p); e != api.OK {
		return api.Plan{}, 0, e
	}
	return p, 0, api.OK
}

// wrongByte is the error of a string in which one byte can't be: its index, or
// the length of the string if something is missing.
type wrongByte struct{ at int }

func (w wrongByte) Error() string { return "wayzgoose: wrong byte " + strconv.Itoa(w.at) }

// parse returns the plan of a string, which need not be valid.
func parse(text string) (api.Plan, error) {
	var r reader
	for i := range len(text) {
		if !r.take(text[i]) {
			return api.Plan{}, wrongByte{i}
		}
	}
	if r.mark != markEnd {
		return api.Plan{}, wrongByte{len(text)}
	}
	return r.plan, nil
}

// The marks tell what a reader has just read.
const (
	markStreet = iota // a street, or nothing yet
	markOpen          // the beginning of a street
	markSpace         // a space, after which a plate is due
	markDigit         // the first digit of a plate
	markNumber        // both digits of a plate
	markLetter        // the letter of a plate
	markEnd           // the line feed
)

// reader reads a plan byte by byte.
type reader struct {
	mark int
	plan api.Plan
}

// take reads the next byte and reports whether it may stand there.
func (r *reader) take(b byte) bool {
	switch r.mark {
	case markStreet:
		if b == '\n' && len(r.plan.Streets) > 0 {
			r.mark = markEnd
			return true
		}
		return b == '[' && r.open()
	case markOpen:
		if b == ']' {
			r.mark = markStreet
			return true
		}
		fallthrough
	case markSpace:
		return b >= '1' && b <= '9' && r.number(int(b-'0'))
	case markDigit:
		if b >= '0' && b <= '9' {
			return r.digit(int(b - '0'))
		}
		fallthrough
	case markNumber:
		if b >= 'a' && b < 'a'+api.MaxLetter {
			return r.letter(int(b-'a') + 1)
		}
		fallthrough
	case markLetter:
		return r.close(b)
	}
	return false
}

// open begins a street.
func (r *reader) open() bool {
	r.mark = markOpen
	r.plan.Streets = append(r.plan.Streets, nil)
	return true
}

// number begins a plate.
func (r *reader) number(n int) bool {
	r.mark = markDigit
	row := &r.plan.Streets[len(r.plan.Streets)-1]
	*row = append(*row, api.Plate{Number: n})
	return true
}

// last returns the plate that was begun last.
func (r *reader) last() *api.Plate {
	row := r.plan.Streets[len(r.plan.Streets)-1]
	return &row[len(row)-1]
}

func (r *reader) digit(n int) bool {
	r.mark = markNumber
	x := r.last()
	x.Number = 10*x.Number + n
	return true
}

func (r *reader) letter(n int) bool {
	r.mark = markLetter
	r.last().Letter = n
	return true
}

// close ends a plate, or a street with it.
func (r *reader) close(b byte) bool {
	switch b {
	case ' ':
		r.mark = markSpace
	case ']':
		r.mark = markStreet
	default:
		return false
	}
	return true
}
