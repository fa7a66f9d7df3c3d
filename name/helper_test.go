package name_test

import (
	"cmp"
	"slices"
	"strings"
	"testing"

	"wayzgoose/api"
)

const (
	latinLetters = "abcdefghijklmnopqrstuvwxyz"
	otherLetters = "ABCDEFGIJKLMNOPRSTUVXYZ"
)

// rules returns rules, each as from=to, with a space between each two.
func rules(text string) []api.Rule {
	var l []api.Rule
	for _, word := range strings.Fields(text) {
		from, to, _ := strings.Cut(word, "=")
		l = append(l, api.Rule{From: from, To: to})
	}
	return l
}

// exampleR are the rules R of the chapter's examples, exampleL the list L.
const (
	exampleR = "ph=f y=i e="
	exampleL = "smith smyth sam"
)

// names returns the names of a text, with a space between each two; the word
// none is an empty name.
func names(text string) []string {
	l := strings.Fields(text)
	for i, word := range l {
		if word == "none" {
			l[i] = ""
		}
	}
	return l
}

// nameError returns the error of a name.
func nameError(name string) api.Errno {
	switch {
	case len(name) < 1:
		return api.ErrShort
	case len(name) > 6:
		return api.ErrLong
	case strings.Trim(name, latinLetters) != "" && strings.Trim(name, otherLetters) != "":
		return api.ErrForm
	}
	return api.OK
}

// listError returns the error of a list of names.
func listError(l []string) api.Errno {
	if len(l) > 6 {
		return api.ErrFull
	}
	for _, name := range l {
		if e := nameError(name); e != api.OK {
			return e
		}
	}
	return api.OK
}

// keyOf returns the key of a valid name.
func keyOf(name string) string {
	return strings.ToLower(strings.NewReplacer("C", "ch", "J", "ju", "X", "sh", "Y", "ja").Replace(name))
}

// compare returns which of two valid names comes first.
func compare(a, b string) int {
	other := func(name string) int { return strings.IndexAny(name[:1], otherLetters) }
	return cmp.Or(strings.Compare(keyOf(a), keyOf(b)), cmp.Compare(min(other(a), 0), min(other(b), 0)))
}

// inOrder reports whether no name of a list comes before the one in front of
// it.
func inOrder(l []string) bool {
	for i := range l {
		if i > 0 && compare(l[i], l[i-1]) < 0 {
			return false
		}
	}
	return true
}

// useOf returns all strings that one use of the rules makes of a key.
func useOf(r []api.Rule, k string) map[string]bool {
	made := map[string]bool{}
	for _, x := range r {
		for _, pair := range [][2]string{{x.From, x.To}, {x.To, x.From}} {
			for i := 0; i <= len(k); i++ {
				for j := i; j <= len(k); j++ {
					s := k[:i] + pair[1] + k[j:]
					if k[i:j] == pair[0] && len(s) > 0 && len(s) < 13 {
						made[s] = true
					}
				}
			}
		}
	}
	return made
}

// chains returns all chains with at most two uses from one key to another one,
// those with the fewest uses only.
func chains(r []api.Rule, a, b string) [][]string {
	if a == b {
		return [][]string{{a}}
	}
	one := useOf(r, a)
	if one[b] {
		return [][]string{{a, b}}
	}
	var l [][]string
	for k := range one {
		if useOf(r, k)[b] {
			l = append(l, []string{a, k, b})
		}
	}
	slices.SortFunc(l, slices.Compare[[]string])
	return l
}

// usesOf returns the fewest uses from one key to another one, 3 if they are
// more than two.
func usesOf(r []api.Rule, a, b string) int {
	l := chains(r, a, b)
	if len(l) == 0 {
		return 3
	}
	return len(l[0]) - 1
}

// standsFor reports whether letters and a point stand for a key.
func standsFor(letters, k string) bool {
	return len(letters) < len(k) && slices.Contains(cuts(k), letters)
}

// cuts returns all strings that have the first letter of a key and some of its
// others, not all, in lexicographic order of those with as many letters, the
// short ones first: all choices of letters are tried.
func cuts(k string) []string {
	l := []string{k[:1]}
	for i := 1; i < len(k); i++ {
		for _, s := range slices.Clone(l) {
			l = append(l, s+k[i:i+1])
		}
	}
	slices.SortFunc(l, func(a, b string) int { return cmp.Or(cmp.Compare(len(a), len(b)), cmp.Compare(a, b)) })
	return slices.Compact(l[:len(l)-1])
}

// clearCuts returns those of cuts that cannot be mistaken for the name at an
// index.
func clearCuts(l []string, at int) []string {
	k, mistaken := keyOf(l[at]), map[string]bool{}
	for _, name := range l {
		if keyOf(name) != k {
			for _, s := range cuts(keyOf(name)) {
				mistaken[s] = true
			}
		}
	}
	return slices.DeleteFunc(cuts(k), func(s string) bool { return mistaken[s] })
}

// subsets returns all ascending lists of numbers below n, those with the fewest
// numbers first, those with as many in lexicographic order.
func subsets(n int) [][]int {
	all := [][]int{nil}
	for i := range n {
		for _, s := range slices.Clone(all) {
			all = append(all, append(slices.Clone(s), i))
		}
	}
	slices.SortFunc(all, func(a, b []int) int { return cmp.Or(cmp.Compare(len(a), len(b)), slices.Compare(a, b)) })
	return all
}

// without returns the names of a list whose indices are not in another one.
func without(l []string, indices []int) []string {
	var rest []string
	for i, name := range l {
		if !slices.Contains(indices, i) {
			rest = append(rest, name)
		}
	}
	return rest
}

// mustBe fails if an error is not the one that is due.
func mustBe(t *testing.T, what string, e, want api.Errno) {
	t.Helper()
	if e != want {
		t.Errorf("%s: error %d, want %d", what, e, want)
	}
}

// die throws numbers that are the same in every run of the tests.
type die struct{ state uint64 }

// throw returns a number from 0 to n - 1.
func (d *die) throw(n int) int {
	d.state = d.state*6364136223846793005 + 1442695040888963407
	return int((d.state >> 33) % uint64(n))
}

// word returns a string of size letters.
func (d *die) word(letters string, size int) string {
	s := ""
	for range size {
		s += string(letters[d.throw(len(letters))])
	}
	return s
}

// name returns a valid name of few letters, so that many keys are alike.
func (d *die) name() string {
	letters := []string{"ab", "achs", "juash", "ACJSXYUA", "AB", latinLetters, otherLetters}[d.throw(7)]
	return d.word(letters, 1+d.throw(6))
}

// list returns a valid list of names; some of them are alike.
func (d *die) list() []string {
	var l []string
	for range d.throw(7) {
		name := d.name()
		if len(l) > 0 && d.throw(2) == 0 {
			name = d.alike(l[d.throw(len(l))])
		}
		l = append(l, name)
	}
	return l
}

// alike returns a valid name that has most of the letters of another one.
func (d *die) alike(name string) string {
	at := d.throw(len(name))
	switch d.throw(4) {
	case 0:
		if len(name) > 1 {
			return name[:at] + name[at+1:]
		}
	case 1:
		if len(name) < 6 {
			return name[:at] + name[at:at+1] + name[at:]
		}
	case 2:
		for _, r := range otherLetters {
			name = strings.ReplaceAll(name, keyOf(string(r)), string(r))
		}
		if strings.Trim(name, otherLetters) == "" {
			return name
		}
		return keyOf(name)[:min(6, len(keyOf(name)))]
	}
	return name
}

// rules returns valid rules of few letters.
func (d *die) rules() []api.Rule {
	var l []api.Rule
	for range d.throw(5) {
		letters := []string{"ab", "achs", latinLetters}[d.throw(3)]
		r := api.Rule{From: d.word(letters, 1+d.throw(2)), To: d.word(letters, d.throw(3))}
		if r.From != r.To {
			l = append(l, r)
		}
	}
	return l
}

// near returns a name whose key some uses make of that of another name, if
// there is one.
func (d *die) near(r []api.Rule, name string) string {
	k := keyOf(name)
	for range d.throw(4) {
		var made []string
		for s := range useOf(r, k) {
			made = append(made, s)
		}
		if len(made) == 0 {
			break
		}
		slices.Sort(made)
		k = made[d.throw(len(made))]
	}
	if len(k) > 6 {
		return name
	}
	return k
}
