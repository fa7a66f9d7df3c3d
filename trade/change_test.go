package trade_test

import (
	"slices"
	"strings"
	"testing"

	"wayzgoose/api"
	"wayzgoose/trade"
)

// TestDrop is about P4.6: what remains without a heading.
func TestDrop(t *testing.T) {
	classes := "class food; class bread in food; class cloth; class hats in cloth; "
	for _, c := range []struct {
		t    string
		head int
		want string
	}{
		{exampleT, 3, classes + "baker is bread; confectioner is food also baker; mercer is cloth"},
		{exampleT, 0, strings.Replace(strings.Replace(exampleT, "baker is bread; ", "", 1), " also baker", "", 1)},
		{exampleT, 1, strings.Replace(strings.Replace(exampleT, "bonnets see hatter; ", "", 1), "; milliner see bonnets", "", 1)},
		{exampleT, 5, strings.Replace(exampleT, "; milliner see bonnets", "", 1)},
		{"class x; a is x", 0, "class x"},
		{"a also b; b also a", 0, ""},
		{"a see b; b see a", 1, ""},
		{"a see b; b see a; c see d; d see c", 1, "c see d; d see c"},
		// A list of references goes just if nothing of it remains.
		{"class x; a also b c; b is x; c is x", 1, "class x; a also c; c is x"},
		{"class x; a also b c; b is x; c see b", 1, "class x"},
		{"class x; a also b d; b is x; c see b; d also c", 1, "class x"},
		{"class x; a also c; b see a; c is x; d is x also b c; e see d; f also b", 2, "class x; d is x; e see d"},
		// A trade remains without its references.
		{"class x; class y; b is y also c d; c is x; d see c", 1, "class x; class y; b is y"},
		{"class x; class y; b is y also c d; c is x; d is x also b c", 0, "class x; class y; c is x; d is x also c"},
		{"a also b; b also c; c also d; d also e; e also f; f also a", 3, ""},
	} {
		u, e := trade.Drop(list(c.t), c.head)
		if !same(u, list(c.want)) || e != api.OK {
			t.Errorf("%s, %d: %v, error %d, want %s", c.t, c.head, u, e, c.want)
		}
	}
}

// move is a word and its kind.
func move(word string, kind int) api.Move { return api.Move{Word: word, Kind: kind} }

// TestCompare is about P4.7: what differs in two editions, and the errors of
// Compare in their order.
func TestCompare(t *testing.T) {
	wrong := "class x; a is nobody"
	for _, c := range []struct {
		a, b string
		want []api.Move
		e    api.Errno
	}{
		{exampleT, exampleU, []api.Move{move("confectioner", 1), move("hatter", 3), move("ironmonger", 2)}, api.OK},
		{exampleU, exampleT, []api.Move{move("confectioner", 2), move("hatter", 3), move("ironmonger", 1)}, api.OK},
		{exampleT, exampleT, nil, api.OK},
		{"", "", nil, api.OK},
		{"class x; b is x; c is x", "class x; a is x; d is x", []api.Move{move("a", 2), move("b", 1), move("c", 1), move("d", 2)}, api.OK},
		// A word that is no trade any more.
		{"class x; a is x; b is x", "class x; a see b; b is x", []api.Move{move("a", 1)}, api.OK},
		{"class x; a also b; b is x", "class x; a is x also b; b is x", []api.Move{move("a", 2)}, api.OK},
		{"class x; a see b; b is x", "class x; a also b; b is x", nil, api.OK},
		{"class x; a is x also b; b is x", "class x; a is x; b is x also a", nil, api.OK},
		// Other classes above the same one, and other numbers of the same ones.
		{"class x; class y in x; a is y", "class x; class y; a is y", []api.Move{move("a", 3)}, api.OK},
		{"class x; class y in x; a is y", "class z; class y in z; a is y", []api.Move{move("a", 3)}, api.OK},
		{"class x; class y in x; a is y", "class y; class x in y; a is x", []api.Move{move("a", 3)}, api.OK},
		{"class x; class y in x; a is y", "class x; class y in x; a is x", []api.Move{move("a", 3)}, api.OK},
		{"class x; class y in x; a is y", "class z; class x; class y in x; a is y", nil, api.OK},
		{wrong, "class 1", nil, api.ErrNoSuch},
		{"class 1", wrong, nil, api.ErrForm},
		{exampleT, wrong, nil, api.ErrNoSuch},
	} {
		l, e := trade.Compare(list(c.a), list(c.b))
		if !slices.Equal(l, c.want) || e != c.e {
			t.Errorf("%s; %s: %v, error %d, want %v, error %d", c.a, c.b, l, e, c.want, c.e)
		}
	}
}

// dropped returns the words of the headings that remain without one: those that
// can't go one by one.
func dropped(t api.Trades, head int) []string {
	there := slices.Repeat([]bool{true}, len(t.Heads))
	there[head] = false
	for range t.Heads {
		for i, h := range t.Heads {
			refers := slices.ContainsFunc(h.Also, func(to int) bool { return there[to] })
			if h.See != -1 {
				refers = there[h.See]
			}
			there[i] = there[i] && (h.Class != -1 || refers)
		}
	}
	var words []string
	for i, h := range t.Heads {
		if there[i] {
			words = append(words, h.Word)
		}
	}
	return words
}

// links returns all references of trades by words.
func links(t api.Trades) []string {
	var l []string
	for _, h := range t.Heads {
		if h.See != -1 {
			l = append(l, h.Word+" see "+t.Heads[h.See].Word)
		}
		for _, to := range h.Also {
			l = append(l, h.Word+" also "+t.Heads[to].Word)
		}
	}
	return l
}

// TestDropped is P4.18: after Drop the trades are valid, just those references
// remain whose headings do, and each trade but the heading remains.
func TestDropped(t *testing.T) {
	d := die{state: 418}
	met := map[int]int{}
	for range 3000 {
		given := d.someTrades(6)
		for i, h := range given.Heads {
			u, e := trade.Drop(given, i)
			mustBe(t, "Drop", e, api.OK)
			mustBe(t, "what remains", trade.Check(u), api.OK)
			words := dropped(given, i)
			var want []string
			for _, link := range links(given) {
				parts := strings.Fields(link)
				if slices.Contains(words, parts[0]) && slices.Contains(words, parts[2]) {
					want = append(want, link)
				}
			}
			if !slices.Equal(links(u), want) || !slices.Equal(wordsOf(u), words) || !slices.Equal(u.Classes, given.Classes) {
				t.Fatalf("%v, %d: %v", given, i, u)
			}
			for j, other := range given.Heads {
				at := slices.Index(words, other.Word)
				if j != i && isTrade(given, j) && (at < 0 || u.Heads[at].Class != other.Class) {
					t.Fatalf("%v, %d: %v, without %s", given, i, u, other.Word)
				}
			}
			refers := func(link string) bool { return strings.HasSuffix(link, " "+h.Word) }
			if !slices.ContainsFunc(links(given), refers) && len(u.Heads) != len(given.Heads)-1 {
				t.Fatalf("%v, %d: %v, more have gone", given, i, u)
			}
			met[len(given.Heads)-len(u.Heads)]++
		}
	}
	for n := 1; n < 5; n++ {
		if met[n] < 50 {
			t.Errorf("%d have gone only %d times", n, met[n])
		}
	}
}

func wordsOf(t api.Trades) []string {
	var l []string
	for _, h := range t.Heads {
		l = append(l, h.Word)
	}
	return l
}

// other returns trades that differ from given ones in a few things.
func (d *die) other(t api.Trades) api.Trades {
	u := clone(t)
	for i := range u.Heads {
		if u.Heads[i].Class != -1 && d.throw(3) == 0 {
			u.Heads[i].Class = d.throw(len(u.Classes))
		}
	}
	for i := range u.Classes {
		if d.throw(6) == 0 {
			u.Classes[i].Under = d.throw(i+1) - 1
		}
	}
	if len(u.Heads) > 0 && d.throw(2) == 0 {
		u, _ = trade.Drop(u, d.throw(len(u.Heads)))
	}
	if d.throw(4) == 0 {
		return d.trades(6)
	}
	return u
}

// TestCompared is P4.19: trades do not differ from themselves; what is gone the
// one way is new the other way, and what has moved has moved both ways.
func TestCompared(t *testing.T) {
	d := die{state: 419}
	met := map[int]int{}
	for range 3000 {
		a := d.trades(6)
		b := d.other(a)
		if l, e := trade.Compare(a, a); len(l) != 0 || e != api.OK {
			t.Fatalf("%v and itself: %v, error %d", a, l, e)
		}
		there, _ := trade.Compare(a, b)
		back, _ := trade.Compare(b, a)
		var want []api.Move
		words := append(wordsOf(a), wordsOf(b)...)
		slices.Sort(words)
		for _, word := range slices.Compact(words) {
			was, is := path(a, word), path(b, word)
			switch {
			case slices.Equal(was, is):
			case len(is) == 0:
				want = append(want, move(word, api.MoveGone))
			case len(was) == 0:
				want = append(want, move(word, api.MoveNew))
			default:
				want = append(want, move(word, api.MoveClass))
			}
		}
		if !slices.Equal(there, want) || len(back) != len(there) {
			t.Fatalf("%v, %v: %v, back %v, want %v", a, b, there, back, want)
		}
		for i, m := range there {
			turned := map[int]int{api.MoveGone: api.MoveNew, api.MoveNew: api.MoveGone, api.MoveClass: api.MoveClass}
			if back[i] != move(m.Word, turned[m.Kind]) {
				t.Fatalf("%v, %v: %v, back %v", a, b, there, back)
			}
			met[m.Kind]++
		}
	}
	for kind := 1; kind <= 3; kind++ {
		if met[kind] < 100 {
			t.Errorf("kind %d only %d times", kind, met[kind])
		}
	}
}

// renumbered returns trades whose classes stand in another order.
func (d *die) renumbered(t api.Trades) api.Trades {
	u, at := api.Trades{}, slices.Repeat([]int{-1}, len(t.Classes))
	for len(u.Classes) < len(t.Classes) {
		i := d.throw(len(t.Classes))
		c := t.Classes[i]
		if at[i] != -1 || c.Under != -1 && at[c.Under] == -1 {
			continue
		}
		if c.Under != -1 {
			c.Under = at[c.Under]
		}
		at[i] = len(u.Classes)
		u.Classes = append(u.Classes, c)
	}
	for _, h := range clone(t).Heads {
		if h.Class != -1 {
			h.Class = at[h.Class]
		}
		u.Heads = append(u.Heads, h)
	}
	return u
}

// TestRenumbered is P4.20: if classes have other numbers, and the same names,
// there is no difference.
func TestRenumbered(t *testing.T) {
	d := die{state: 420}
	others := 0
	for range 2000 {
		a := d.trades(6)
		b := d.renumbered(a)
		mustBe(t, "renumbered", trade.Check(b), api.OK)
		if l, e := trade.Compare(a, b); len(l) != 0 || e != api.OK {
			t.Fatalf("%v, %v: %v, error %d", a, b, l, e)
		}
		if !same(a, b) {
			others++
		}
	}
	if others < 500 {
		t.Errorf("only %d have other numbers", others)
	}
}
