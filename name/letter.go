package name

import "strings"

// The kinds of letters.
const (
	kindNone  = iota // no letter of a name
	kindLatin        // a Latin letter
	kindOther        // a letter of the other alphabet, for a Latin one
	kindPair         // a letter of the other alphabet, for two Latin ones
)

func kindOf(r rune) int {
	switch {
	case r >= 'a' && r <= 'z':
		return kindLatin
	case r < 'A' || r > 'Z' || strings.ContainsRune("HQW", r):
		return kindNone
	case strings.ContainsRune("CJXY", r):
		return kindPair
	}
	return kindOther
}

// alphabetOf returns kindLatin, kindOther or, if r is no letter, kindNone.
func alphabetOf(r rune) int { return min(kindOf(r), kindOther) }

// latin returns the Latin letters for which a letter stands.
func latin(r rune) string {
	switch kindOf(r) {
	case kindPair:
		return pair(r)
	case kindOther:
		r += 'a' - 'A'
		fallthrough
	case kindLatin:
		return string(r)
	}
	return ""
}

func pair(r rune) string {
	switch r {
	case 'C':
		return "ch"
	case 'J':
		return "ju"
	case 'X':
		return "sh"
	}
	return "ja"
}
