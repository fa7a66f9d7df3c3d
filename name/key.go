package name

import (
	"iter"
	"slices"
	"strings"

	"wayzgoose/api"
)

// key is a string of Latin letters: the key of a name, what uses of rules make
// of one, or the letters of an abbreviation.
type key string

func (k key) compare(o key) int { return strings.Compare(string(k), string(o)) }

// fits reports whether a use may make this string.
func (k key) fits() bool { return len(k) >= 1 && len(k) <= api.MaxKey }

// isLatin reports whether a string has Latin letters only.
func (k key) isLatin() bool {
	for _, r := range string(k) {
		if kindOf(r) != kindLatin {
			return false
		}
	}
	return true
}

// other returns the name of the other alphabet with this key, and false if
// there is none. No letter stands for something that begins with h, so where
// sh can be one letter it can't be two.
func (k key) other() (string, bool) {
	var name strings.Builder
	for rest := string(k); rest != ""; {
		letter, ok := otherLetter(rest)
		if !ok {
			return "", false
		}
		name.WriteRune(letter)
		rest = rest[len(latin(letter)):]
	}
	return name.String(), true
}

// otherLetter returns the letter of the other alphabet that stands for the
// beginning of a string: if there are two, the one that stands for more of it.
func otherLetter(text string) (letter rune, ok bool) {
	for r := 'A'; r <= 'Z'; r++ {
		if kindOf(r) == kindNone || !strings.HasPrefix(text, latin(r)) {
			continue
		}
		if !ok || len(latin(r)) > len(latin(letter)) {
			letter, ok = r, true
		}
	}
	return letter, ok
}

// uses goes through all strings that one use of a rule makes, some of them more
// than once.
func (k key) uses(rules []api.Rule) iter.Seq[key] {
	return func(yield func(key) bool) {
		replace := func(from, to string) bool {
			for at := range len(k) + 1 {
				rest, ok := strings.CutPrefix(string(k[at:]), from)
				if !ok {
					continue
				}
				if made := k[:at] + key(to+rest); made.fits() && !yield(made) {
					return false
				}
			}
			return true
		}
		for _, r := range rules {
			if !replace(r.From, r.To) || !replace(r.To, r.From) {
				return
			}
		}
	}
}

// shortens reports whether an abbreviation with these letters, at least one,
// stands for a name with the key whole.
func (k key) shortens(whole key) bool {
	if len(k) >= len(whole) || k[0] != whole[0] {
		return false
	}
	rest := string(whole)
	for _, r := range string(k) {
		at := strings.IndexRune(rest, r)
		if at < 0 {
			return false
		}
		rest = rest[at+1:]
	}
	return true
}

// cuts goes through the letters of all abbreviations that have n letters, at
// least one, and stand for a name with this key, in lexicographic order.
func (k key) cuts(n int) iter.Seq[key] {
	return func(yield func(key) bool) {
		var grow func(letters, rest key) bool
		grow = func(letters, rest key) bool {
			if len(letters) == n {
				return yield(letters)
			}
			for _, at := range rest.firsts() {
				if !grow(letters+rest[at:at+1], rest[at+1:]) {
					return false
				}
			}
			return true
		}
		if n < len(k) {
			grow(k[:1], k[1:])
		}
	}
}

// firsts returns where each letter of a string stands first, in the order of
// the letters: what can follow a later place can follow the first one too.
func (k key) firsts() []int {
	var l []int
	for at := range len(k) {
		if strings.IndexByte(string(k), k[at]) == at {
			l = append(l, at)
		}
	}
	slices.SortFunc(l, func(i, j int) int { return int(k[i]) - int(k[j]) })
	return l
}
