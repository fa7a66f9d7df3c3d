package kin_test

import (
	"reflect"
	"slices"
	"strconv"
	"strings"
	"testing"

	"wayzgoose/api"
	"wayzgoose/name"
	"wayzgoose/street"
	"wayzgoose/trade"
)

// plan returns a plan such as "[1 2a][]".
func plan(text string) api.Plan {
	p, _, _ := street.Read(text + "\n")
	return p
}

func turn(n int) api.Change { return api.Change{Kind: api.ChangeTurn, Street: n} }

func swap(n int) api.Change { return api.Change{Kind: api.ChangeSwap, Street: n} }

func join(n, other int) api.Change {
	return api.Change{Kind: api.ChangeJoin, Street: n, Other: other}
}

func divide(n, number int) api.Change {
	return api.Change{Kind: api.ChangeDivide, Street: n, From: api.Plate{Number: number}}
}

func fell(n, number int) api.Change {
	return api.Change{Kind: api.ChangeFell, Street: n, From: api.Plate{Number: number}}
}

// step returns a step that is one of some ways.
func step(ways ...api.Change) api.Step { return api.Step{Ways: ways} }

func story(first string, steps ...api.Step) api.Story {
	return api.Story{First: plan(first), Steps: steps}
}

// at returns the place of a house without a letter.
func at(street, number int) api.Place {
	return api.Place{Street: street, Plate: api.Plate{Number: number}}
}

// exampleT is the text of the trades T of layer 4.
const exampleT = "class food\nclass bread in food\nclass cloth\nclass hats in cloth\n" +
	"baker is bread\nbonnets see hatter\nconfectioner is food also baker\nhatter is hats\nmercer is cloth also hatter\nmilliner see bonnets\nfinis\n"

func trades(text string) api.Trades {
	t, _, _ := trade.Read(text)
	return t
}

// fields returns the parts of a text between commas, each as its words.
func fields(text string) [][]string {
	var l [][]string
	for _, part := range strings.Split(text, ",") {
		if words := strings.Fields(part); len(words) > 0 {
			l = append(l, words)
		}
	}
	return l
}

func number(word string) int {
	n, _ := strconv.Atoi(word)
	return n
}

// people returns people such as "smith 0/1 0, CAD 1/3": a name, a street and a
// number, and a heading if there is one.
func people(text string) []api.Person {
	var l []api.Person
	for _, words := range fields(text) {
		row, house, _ := strings.Cut(words[1], "/")
		p := api.Person{Name: words[0], Street: number(row), Number: number(house), Head: -1}
		if len(words) > 2 {
			p.Head = number(words[2])
		}
		l = append(l, p)
	}
	return l
}

// rules returns rules such as "ph=f y=i e=".
func rules(text string) []api.Rule {
	var l []api.Rule
	for _, word := range strings.Fields(text) {
		from, to, _ := strings.Cut(word, "=")
		l = append(l, api.Rule{From: from, To: to})
	}
	return l
}

// tie returns a fact such as "0=1" or "0!1" (not the same).
func tie(word string) api.Tie {
	a, b, same := strings.Cut(word, "=")
	if !same {
		a, b, _ = strings.Cut(word, "!")
	}
	return api.Tie{A: number(a), B: number(b), Same: same}
}

func ties(text string) []api.Tie {
	var l []api.Tie
	for _, word := range strings.Fields(text) {
		l = append(l, tie(word))
	}
	return l
}

// pairs returns pairs such as "0 1, 2 0".
func pairs(text string) [][]int {
	var l [][]int
	for _, words := range fields(text) {
		l = append(l, []int{number(words[0]), number(words[1])})
	}
	return l
}

// exampleK returns the kin K of the chapter's examples, with some facts.
func exampleK(facts string) api.Kin {
	return api.Kin{
		Story:  story("[1 2][1]", step(turn(0), swap(0))),
		Trades: trades(exampleT),
		Rules:  rules("y=i"),
		Before: people("smith 0/1 0, anna 0/2 3, smyth 1/1 2"),
		After:  people("smyth 0/2 0, smith 1/1, ben 0/1 4"),
		Gone:   1, New: 1, Moved: 1,
		Facts: ties(facts),
	}
}

// exampleK2 is K with Moved 2.
func exampleK2(facts string) api.Kin {
	k := exampleK(facts)
	k.Moved = 2
	return k
}

// withLimits returns kin with other limits.
func withLimits(k api.Kin, gone, come, moved int) api.Kin {
	k.Gone, k.New, k.Moved = gone, come, moved
	return k
}

// withFacts returns kin with just some facts.
func withFacts(k api.Kin, facts ...api.Tie) api.Kin {
	k.Facts = facts
	return k
}

// withFact returns kin with one fact more.
func withFact(k api.Kin, x api.Tie) api.Kin { return withFacts(k, append(slices.Clone(k.Facts), x)...) }

// plain returns kin without trades, facts and steps, with the greatest limits.
func plain(before, after, ruleText string) api.Kin {
	return api.Kin{
		Story: story("[1 2 3 4]"), Rules: rules(ruleText), Before: people(before), After: people(after),
		Gone: api.MaxKin, New: api.MaxKin, Moved: api.MaxKin,
	}
}

// clone returns kin that share no memory with k, in slices that have so much
// memory more than they need.
func clone(k api.Kin, more int) api.Kin {
	k.Story.First.Streets = roomy(k.Story.First.Streets, more)
	for i, row := range k.Story.First.Streets {
		k.Story.First.Streets[i] = roomy(row, more)
	}
	k.Story.Steps, k.Story.Facts = roomy(k.Story.Steps, more), roomy(k.Story.Facts, more)
	for i, s := range k.Story.Steps {
		k.Story.Steps[i].Ways = roomy(s.Ways, more)
	}
	k.Trades.Classes, k.Trades.Heads = roomy(k.Trades.Classes, more), roomy(k.Trades.Heads, more)
	for i, h := range k.Trades.Heads {
		k.Trades.Heads[i].Also = roomy(h.Also, more)
	}
	k.Rules, k.Facts = roomy(k.Rules, more), roomy(k.Facts, more)
	k.Before, k.After = roomy(k.Before, more), roomy(k.After, more)
	return k
}

// roomy returns a copy of a list with memory behind its end. A list without
// items is nil, so that such lists are the same.
func roomy[T any](l []T, more int) []T {
	if len(l)+more == 0 {
		return nil
	}
	return append(make([]T, 0, len(l)+more), l...)
}

// same reports whether two kin are the same; nil and empty slices are.
func same(k, m api.Kin) bool { return reflect.DeepEqual(clone(k, 0), clone(m, 0)) }

// samePairs reports whether two lists of pairs are the same.
func samePairs(a, b [][]int) bool { return slices.EqualFunc(a, b, slices.Equal[[]int]) }

// lists returns all lists of n numbers from low to high - 1, in lexicographic
// order.
func lists(low, high, n int) [][]int {
	if n == 0 {
		return [][]int{nil}
	}
	var all [][]int
	for _, l := range lists(low, high, n-1) {
		for x := low; x < high; x++ {
			all = append(all, append(slices.Clone(l), x))
		}
	}
	return all
}

// upTo returns all numbers below n.
func upTo(n int) []int {
	var l []int
	for i := range n {
		l = append(l, i)
	}
	return l
}

// without returns all numbers below n that are not in l.
func without(n int, l []int) []int {
	return slices.DeleteFunc(upTo(n), func(x int) bool { return slices.Contains(l, x) })
}

// subsets returns all lists of numbers below n, ascending: those with fewer
// numbers first, of as many the ones that come before in lexicographic order.
func subsets(n int) [][]int {
	all := [][]int{nil}
	for i := 0; i < len(all); i++ {
		from := 0
		if l := all[i]; len(l) > 0 {
			from = l[len(l)-1] + 1
		}
		for x := from; x < n; x++ {
			all = append(all, append(slices.Clone(all[i]), x))
		}
	}
	return all
}

// follow returns what a house becomes by a way for each step, as After and
// Becomes say it, or false if a change can't be made.
func follow(s api.Story, ways []int, house api.Place) ([]api.Place, bool) {
	now, l := s.First, []api.Place{house}
	for i, way := range ways {
		c := s.Steps[i].Ways[way]
		next, e := street.After(now, c)
		if e != api.OK {
			return nil, false
		}
		var all []api.Place
		for _, x := range l {
			to, _ := street.Becomes(now, c, x)
			all = append(all, to...)
		}
		now, l = next, all
	}
	return l, true
}

// isPast reports whether a way for each step is a truth of a story.
func isPast(s api.Story, ways []int) bool {
	_, ok := follow(s, ways, api.Place{})
	for _, f := range s.Facts {
		to, _ := follow(s, ways, f.From)
		ok = ok && slices.Contains(to, f.To)
	}
	return ok
}

// pasts returns all truths of a story: all lists of ways are tried.
func pasts(s api.Story) [][]int {
	return slices.DeleteFunc(lists(0, api.MaxWays, len(s.Steps)), func(ways []int) bool {
		for i, way := range ways {
			if way >= len(s.Steps[i].Ways) {
				return true
			}
		}
		return !isPast(s, ways)
	})
}

// houseOf returns the house of a person.
func houseOf(p api.Person) api.Place { return at(p.Street, p.Number) }

// classes returns the class of a heading, and all classes above it.
func classes(t api.Trades, head int) []int {
	var l []int
	for class := t.Heads[head].Class; class != -1; class = t.Classes[class].Under {
		l = append(l, class)
	}
	return l
}

// apart returns what keeps two people apart, as the chapter says it.
func apart(k api.Kin, a, b int) []int {
	var l []int
	p, q := k.Before[a], k.After[b]
	if _, e := name.Uses(k.Rules, p.Name, q.Name); e == api.ErrNone {
		l = append(l, api.ByName)
	}
	if p.Head != -1 && q.Head != -1 && p.Head != q.Head {
		above := classes(k.Trades, q.Head)
		if !slices.ContainsFunc(classes(k.Trades, p.Head), func(class int) bool { return slices.Contains(above, class) }) {
			l = append(l, api.ByTrade)
		}
	}
	for _, x := range k.Facts {
		if x.A == a && x.B == b && !x.Same {
			l = append(l, api.ByFact)
		}
	}
	return l
}

// truth is a truth as the tests find it: with whom each old one is a pair, -1
// if with nobody, and whether this pair stays.
type truth struct {
	ways  []int
	to    []int
	stays []bool
}

// pairs returns the pairs of a truth.
func (t truth) pairs() [][]int {
	var l [][]int
	for a, b := range t.to {
		if b != -1 {
			l = append(l, []int{a, b})
		}
	}
	return l
}

// counts returns how many people of some kin have gone, come and moved.
func (t truth) counts(k api.Kin) (gone, come, moved int) {
	n := len(t.pairs())
	for a, b := range t.to {
		if b != -1 && !t.stays[a] {
			moved++
		}
	}
	return len(k.Before) - n, len(k.After) - n, moved
}

// scene is kin, and each truth of their story with each set of pairs of people
// whom neither names nor trades keep apart, nobody twice.
type scene struct {
	api.Kin
	all []truth
}

// sceneOf returns the scene of valid kin.
func sceneOf(k api.Kin) scene {
	s := scene{Kin: k}
	matchings := matchings(withFacts(k))
	for _, ways := range pasts(k.Story) {
		stays := make([][]bool, len(k.Before))
		for a, p := range k.Before {
			to, _ := follow(k.Story, ways, houseOf(p))
			for _, q := range k.After {
				stays[a] = append(stays[a], slices.Contains(to, houseOf(q)))
			}
		}
		for _, to := range matchings {
			t := truth{ways: ways, to: to}
			for a, b := range to {
				t.stays = append(t.stays, b != -1 && stays[a][b])
			}
			s.all = append(s.all, t)
		}
	}
	return s
}

// matchings returns all lists of the new ones with whom old ones are pairs: no
// new one is twice, and nothing keeps two of a pair apart.
func matchings(k api.Kin) [][]int {
	fits := make([][]bool, len(k.Before))
	for a := range k.Before {
		for b := range k.After {
			fits[a] = append(fits[a], len(apart(k, a, b)) == 0)
		}
	}
	return slices.DeleteFunc(lists(-1, len(k.After), len(k.Before)), func(to []int) bool {
		met := map[int]bool{}
		for a, b := range to {
			if b != -1 && (met[b] || !fits[a][b]) {
				return true
			}
			met[b] = true
		}
		return false
	})
}

// isTold reports whether a fact is so in a truth.
func (t truth) isTold(x api.Tie) bool { return (t.to[x.A] == x.B) == x.Same }

// pairings returns all with just some facts, whatever the limits are.
func (s scene) pairings(facts []int) []truth {
	var l []truth
	for _, t := range s.all {
		if !slices.ContainsFunc(facts, func(n int) bool { return !t.isTold(s.Facts[n]) }) {
			l = append(l, t)
		}
	}
	return l
}

// truthsWith returns all truths with just some facts.
func (s scene) truthsWith(facts []int) []truth {
	return slices.DeleteFunc(s.pairings(facts), func(t truth) bool {
		gone, come, moved := t.counts(s.Kin)
		return gone > s.Gone || come > s.New || moved > s.Moved
	})
}

// truths returns all truths.
func (s scene) truths() []truth { return s.truthsWith(upTo(len(s.Facts))) }

// verdictOf returns whether something is so in truths.
func verdictOf(truths []truth, is func(truth) bool) int {
	n := 0
	for _, t := range truths {
		if is(t) {
			n++
		}
	}
	switch n {
	case len(truths):
		return api.Sure
	case 0:
		return api.Out
	}
	return api.Open
}

// isZero reports whether a value is the zero value, or an empty slice.
func isZero(x any) bool {
	v := reflect.ValueOf(x)
	return v.IsZero() || v.Kind() == reflect.Slice && v.Len() == 0
}

// met counts what some tests have met.
type met map[string]int

// mustAll fails unless all of these things were met so often.
func (m met) mustAll(t *testing.T, least int, things ...string) {
	t.Helper()
	for _, x := range things {
		if m[x] < least {
			t.Errorf("met %q %d times, not %d", x, m[x], least)
		}
	}
}

// mustBe fails if an error is not the one that is due.
func mustBe(t *testing.T, what string, e, want api.Errno) {
	t.Helper()
	if e != want {
		t.Errorf("%s: error %d, want %d", what, e, want)
	}
}
