package trade

import (
	"maps"
	"slices"

	"wayzgoose/api"
)

// fall returns all headings that go if one goes.
func (l list) fall(head int) set {
	gone := set(0).with(head)
	for before := set(0); gone != before; {
		before = gone
		for i, h := range l.headings {
			if !h.stays(gone) {
				gone = gone.with(i)
			}
		}
	}
	return gone
}

// without returns the trades without some headings, to which no pointer that
// remains refers.
func (l list) without(gone set) api.Trades {
	t := api.Trades{Classes: slices.Clone(l.Classes)}
	for i, h := range l.Heads {
		if gone.has(i) {
			continue
		}
		if h.See != none {
			h.See -= gone.before(h.See)
		}
		var also []int
		for _, to := range h.Also {
			if !gone.has(to) {
				also = append(also, to-gone.before(to))
			}
		}
		h.Also = also
		t.Heads = append(t.Heads, h)
	}
	return t
}

// paths returns the names of the classes of all trades, by their words.
func (l list) paths() map[string][]string {
	paths := map[string][]string{}
	for i, h := range l.headings {
		b, ok := h.(business)
		if !ok {
			continue
		}
		var names []string
		for _, class := range l.path(b.class) {
			names = append(names, l.Classes[class].Name)
		}
		paths[l.Heads[i].Word] = names
	}
	return paths
}

// Drop returns the trades without a heading.
func Drop(t api.Trades, head int) (api.Trades, api.Errno) {
	l, e := beginHead(t, head)
	if e != api.OK {
		return api.Trades{}, e
	}
	return l.without(l.fall(head)), api.OK
}

// Compare returns what became of the trades of a in b.
func Compare(a, b api.Trades) ([]api.Move, api.Errno) {
	old, e := begin(a)
	if e != api.OK {
		return nil, e
	}
	young, e := begin(b)
	if e != api.OK {
		return nil, e
	}
	before, after := old.paths(), young.paths()
	words := slices.AppendSeq(slices.Collect(maps.Keys(before)), maps.Keys(after))
	slices.Sort(words)
	var moves []api.Move
	for _, word := range slices.Compact(words) {
		was, in := before[word]
		is, still := after[word]
		switch {
		case !still:
			moves = append(moves, api.Move{Word: word, Kind: api.MoveGone})
		case !in:
			moves = append(moves, api.Move{Word: word, Kind: api.MoveNew})
		case !slices.Equal(was, is):
			moves = append(moves, api.Move{Word: word, Kind: api.MoveClass})
		}
	}
	return moves, api.OK
}
