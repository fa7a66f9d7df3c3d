package name

import (
	"cmp"
	"slices"

	"wayzgoose/api"
)

// checkRules returns the first error of rules.
func checkRules(rules []api.Rule) error {
	if len(rules) > api.MaxRules {
		return wrongString{api.ErrFull}
	}
	for _, r := range rules {
		if len(r.From) < 1 || len(r.From) > 2 || len(r.To) > 2 || r.From == r.To || !key(r.From+r.To).isLatin() {
			return wrongString{api.ErrForm}
		}
	}
	return nil
}

// path is the ways to a key. Uses can be undone by others of the same rules,
// so it is found from its end.
type path struct {
	rules []api.Rule
	met   map[key]int // the fewest uses from each spelling met, if below MaxUses
}

// pathTo returns the ways to a key by the uses of rules.
func pathTo(goal key, rules []api.Rule) path {
	p := path{rules, map[key]int{goal: 0}}
	edge := []key{goal}
	for uses := 1; uses < api.MaxUses; uses++ {
		var next []key
		for _, k := range edge {
			for made := range k.uses(rules) {
				if _, ok := p.met[made]; !ok {
					p.met[made] = uses
					next = append(next, made)
				}
			}
		}
		edge = next
	}
	return p
}

// uses returns the fewest uses that make k into the key, and false if these are
// more than MaxUses.
func (p path) uses(k key) (int, bool) {
	if n, ok := p.met[k]; ok {
		return n, true
	}
	for made := range k.uses(p.rules) {
		if _, ok := p.met[made]; ok {
			return api.MaxUses, true
		}
	}
	return 0, false
}

// next returns the first string that a use makes of k and that is n uses away
// from the key; there is one.
func (p path) next(k key, n int) key {
	var l []key
	for made := range k.uses(p.rules) {
		if uses, ok := p.met[made]; ok && uses == n {
			l = append(l, made)
		}
	}
	return slices.MinFunc(l, key.compare)
}

// begin returns the key of a and the ways to the key of b, or the first error
// of the rules, of a and of b.
func begin(rules []api.Rule, a, b string) (key, path, error) {
	if err := checkRules(rules); err != nil {
		return "", path{}, err
	}
	l, err := readAll(a, b)
	if err != nil {
		return "", path{}, err
	}
	return l[0].key, pathTo(l[1].key, rules), nil
}

// Uses returns the fewest uses of rules that make the key of a into that of b.
func Uses(r []api.Rule, a, b string) (int, api.Errno) {
	k, p, err := begin(r, a, b)
	if err != nil {
		return 0, codeOf(err)
	}
	n, ok := p.uses(k)
	if !ok {
		return 0, api.ErrNone
	}
	return n, api.OK
}

// Verdict returns whether two names can be the same.
func Verdict(r []api.Rule, a, b string) (int, api.Errno) {
	k, p, err := begin(r, a, b)
	if err != nil {
		return 0, codeOf(err)
	}
	n, ok := p.uses(k)
	switch {
	case !ok:
		return api.Out, api.OK
	case n > 0:
		return api.Open, api.OK
	}
	return api.Sure, api.OK
}

// Chain returns the key of a and what each of the fewest uses makes of it, up
// to the key of b.
func Chain(r []api.Rule, a, b string) ([]string, api.Errno) {
	k, p, err := begin(r, a, b)
	if err != nil {
		return nil, codeOf(err)
	}
	n, ok := p.uses(k)
	if !ok {
		return nil, api.ErrNone
	}
	chain := []string{string(k)}
	for n > 0 {
		n--
		k = p.next(k, n)
		chain = append(chain, string(k))
	}
	return chain, api.OK
}

// Near returns the indices of the names of a list that can be the same as a
// name, those with the fewest uses first.
func Near(r []api.Rule, name string, l []string) ([]int, api.Errno) {
	if err := checkRules(r); err != nil {
		return nil, codeOf(err)
	}
	s, err := read(name)
	if err != nil {
		return nil, codeOf(err)
	}
	names, err := readList(l)
	if err != nil {
		return nil, codeOf(err)
	}
	p := pathTo(s.key, r)
	var near []int
	uses := make([]int, len(names))
	for i, other := range names {
		n, ok := p.uses(other.key)
		if ok {
			near = append(near, i)
		}
		uses[i] = n
	}
	slices.SortStableFunc(near, func(i, j int) int { return cmp.Compare(uses[i], uses[j]) })
	return near, api.OK
}
