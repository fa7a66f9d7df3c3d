package part_test

import (
	"slices"
	"testing"

	"wayzgoose/api"
	"wayzgoose/name"
	"wayzgoose/part"
	"wayzgoose/trade"
)

// TestOrderExamples is P6.1: the examples of Order.
func TestOrderExamples(t *testing.T) {
	for at, want := range []string{"3 0 1 2", "3 2 0 1", "0 1 3"} {
		mustEqual(t, "Order", ordered(t, exampleV(), at), numbers(want))
	}
	_, e := part.Order(exampleV(), 3)
	mustBe(t, "Order(V; 3)", e, api.ErrRange)
}

// TestOrder is P6.1: by what the people of a part are ordered. Each list is in
// order; each two neighbours differ in something that decides, and mostly in
// something else, by which they would be the other way round.
func TestOrder(t *testing.T) {
	for _, c := range []struct {
		part   int
		people string
	}{
		{api.PartStreet, "zz 0/9 mercer *, aa 1/1"},
		{api.PartStreet, "zz 0/9 mercer *, aa 0/10"},
		{api.PartStreet, "aa 0/9 mercer *, ab 0/9"},
		{api.PartStreet, "chad 0/9 mercer *, CAD 0/9"},
		{api.PartStreet, "BEN 0/9 mercer *, cad 0/9"},
		{api.PartStreet, "an 0/9 mercer *, ann 0/9 baker"},
		{api.PartStreet, "aa 0/9 *, aa 0/9 baker"},
		{api.PartStreet, "aa 0/9 baker *, aa 0/9 hatter"},
		{api.PartStreet, "aa 0/9 hatter, aa 0/9 hatter *"},
		{api.PartName, "aa 1/9 mercer *, ab 0/1"},
		{api.PartName, "chad 1/9 mercer *, CAD 0/1"},
		{api.PartName, "ANN 1/9 mercer *, bea 0/1"},
		{api.PartName, "aa 0/9 mercer *, aa 1/1"},
		{api.PartName, "aa 0/9 mercer *, aa 0/10"},
		{api.PartName, "aa 0/9 *, aa 0/9 baker"},
		{api.PartName, "aa 0/9 baker *, aa 0/9 hatter"},
		{api.PartName, "aa 0/9 hatter, aa 0/9 hatter *"},
		{api.PartTrade, "zz 1/9 baker *, aa 0/1 hatter"},
		{api.PartTrade, "aa 1/9 baker *, ab 0/1 baker"},
		{api.PartTrade, "chad 1/9 baker *, CAD 0/1 baker"},
		{api.PartTrade, "aa 0/9 baker *, aa 1/1 baker"},
		{api.PartTrade, "aa 0/9 baker *, aa 0/10 baker"},
		{api.PartTrade, "aa 0/9 baker, aa 0/9 baker *"},
	} {
		v := volume(5, 4, c.people)
		mustEqual(t, c.people, ordered(t, v, c.part), []int{0, 1})
		slices.Reverse(v.People)
		mustEqual(t, c.people+" the other way round", ordered(t, v, c.part), []int{1, 0})
	}
	same := volume(5, 4, "aa 0/9 baker, ab 0/9 baker, aa 0/9 baker, ab 0/9 baker, aa 0/9 baker, a 0/9")
	mustEqual(t, "the same people by street", ordered(t, same, api.PartStreet), []int{5, 0, 2, 4, 1, 3})
	mustEqual(t, "the same people by name", ordered(t, same, api.PartName), []int{5, 0, 2, 4, 1, 3})
	mustEqual(t, "the same people by trade", ordered(t, same, api.PartTrade), []int{0, 2, 4, 1, 3})
	for at := range parts {
		mustEqual(t, "nobody", ordered(t, volume(5, 4, ""), at), nil)
	}
	mustEqual(t, "nobody with a trade", ordered(t, volume(5, 4, "aa 0/1, bb 0/2"), api.PartTrade), nil)
}

// TestOrders is P6.7: Order has each person of the part once, and no person
// comes before one that is in front of it.
func TestOrders(t *testing.T) {
	d := die{state: 7}
	for range 2000 {
		v := d.volume()
		for at := range parts {
			l := ordered(t, v, at)
			mustEqual(t, "the people of Order", some(v, l...), sorted(at, v.People))
			for i := range l[min(1, len(l)):] {
				p, q := v.People[l[i]], v.People[l[i+1]]
				if rank(at, p) > rank(at, q) || p == q && l[i] > l[i+1] {
					t.Fatalf("%v, part %d: %d is in front of %d", v.People, at, l[i], l[i+1])
				}
			}
			met := map[int]bool{}
			for _, n := range l {
				met[n] = true
			}
			if len(met) != len(l) {
				t.Fatalf("%v, part %d: %v has a person twice", v.People, at, l)
			}
		}
	}
}

// TestUnderAndFind is P6.4: the examples of Under and Find, and other ones.
func TestUnderAndFind(t *testing.T) {
	for _, c := range []struct {
		class int
		want  string
	}{{0, "0 1"}, {1, "0"}, {2, "3"}, {3, "3"}} {
		l, e := part.Under(exampleV(), c.class)
		mustBe(t, "Under", e, api.OK)
		mustEqual(t, "Under", l, numbers(c.want))
	}
	for _, c := range []struct{ beginning, want string }{
		{"b", "0 3"}, {"con", "1"}, {"", "0 1 3"}, {"bo", "3"}, {"mil", "3"}, {"me", ""}, {"m", "3"}, {"x", ""}, {"hatter", "3"}, {"hatters", ""}, {"B", ""},
	} {
		l, e := part.Find(exampleV(), c.beginning)
		mustBe(t, "Find", e, api.OK)
		mustEqual(t, "Find "+c.beginning, l, numbers(c.want))
	}
	v := volume(5, 4, "zz 0/1 mercer, dd 0/1 hatter, CAD 0/1 hatter, chad 0/1 hatter, aa 0/1, aa 0/1 confectioner")
	l, _ := part.Under(v, 2)
	mustEqual(t, "all of cloth", l, []int{3, 2, 1, 0})
	l, _ = part.Find(v, "m")
	mustEqual(t, "all of m", l, []int{3, 2, 1, 0})
}

// TestFound is P6.4 and P6.13: Under and Find return just those of the part of
// trades whom layer 4 says, in its order; a longer beginning finds no others,
// and the empty one finds all.
func TestFound(t *testing.T) {
	d := die{state: 13}
	m := met{}
	for range 2000 {
		v := d.volume()
		all := ordered(t, v, api.PartTrade)
		whose := func(trades []int) []int {
			return slices.DeleteFunc(slices.Clone(all), func(n int) bool { return !slices.Contains(trades, v.People[n].Head) })
		}
		for class := range v.Trades.Classes {
			trades, _ := trade.Under(v.Trades, class)
			l, e := part.Under(v, class)
			mustBe(t, "Under", e, api.OK)
			mustEqual(t, "Under", l, whose(trades))
			m["under"] += len(l)
		}
		empty, _ := part.Find(v, "")
		mustEqual(t, "Find of the empty beginning", empty, all)
		for _, h := range v.Trades.Heads {
			before := empty
			for end := range len(h.Word) + 1 {
				trades, _ := trade.May(v.Trades, h.Word[:end])
				l, e := part.Find(v, h.Word[:end])
				mustBe(t, "Find", e, api.OK)
				mustEqual(t, "Find", l, whose(trades))
				mustEqual(t, "Find of a longer beginning", l, slices.DeleteFunc(slices.Clone(before), func(n int) bool { return !slices.Contains(l, n) }))
				before = l
				m["found"] += len(l)
			}
		}
	}
	m.mustAll(t, 1000, "under", "found")
}

// TestTwiceExamples is P6.4: the example of Twice, and what decides.
func TestTwiceExamples(t *testing.T) {
	twin := func(a, b, verdict int) []api.Twin { return []api.Twin{{A: a, B: b, Verdict: verdict}} }
	for _, c := range []struct {
		people string
		want   []api.Twin
	}{
		{"smith 0/12 baker, smyth 0/12 confectioner, CAD 1/3, anna 0/7 hatter *", twin(0, 1, api.Open)},
		{"chad 0/1 baker, CAD 0/1 baker *", twin(0, 1, api.Sure)},
		{"chad 0/1, CAD 0/1", twin(0, 1, api.Sure)},
		{"chad 0/1 baker, CAD 0/1 confectioner", twin(0, 1, api.Open)},
		{"chad 0/1 baker, CAD 0/1", twin(0, 1, api.Open)},
		{"chad 0/1, CAD 0/1 baker", twin(0, 1, api.Open)},
		{"smith 0/1, smyth 0/1", twin(0, 1, api.Open)},
		{"smith 0/1 baker, smyth 0/1 baker", twin(0, 1, api.Open)},
		{"smith 0/1, smythe 0/1", twin(0, 1, api.Open)},
		{"ralph 0/1, RALF 0/1", twin(0, 1, api.Open)},
		{"smith 0/1 hatter, smith 0/1 mercer", twin(0, 1, api.Open)},
		{"smith 0/1 baker, smith 0/1 hatter", nil},
		{"smith 0/1 baker, smyth 0/1 hatter", nil},
		{"smith 0/1 baker, smith 0/2 baker", nil},
		{"smith 0/1 baker, smith 1/1 baker", nil},
		{"smith 0/1, ralf 0/1", nil},
		{"", nil},
		{"smith 0/1", nil},
		{"smith 0/1 baker, ann 0/1, smith 0/1 hatter, smyth 0/1", []api.Twin{{A: 0, B: 3, Verdict: api.Open}, {A: 2, B: 3, Verdict: api.Open}}},
		{"an 0/1, an 0/1, an 0/1", []api.Twin{{A: 0, B: 1, Verdict: api.Sure}, {A: 0, B: 2, Verdict: api.Sure}, {A: 1, B: 2, Verdict: api.Sure}}},
	} {
		l, e := part.Twice(volume(5, 4, c.people))
		mustBe(t, "Twice", e, api.OK)
		mustEqual(t, c.people, l, c.want)
	}
}

// mayShare reports whether two headings are the same, or one is none, or a
// class has the classes of both under it.
func mayShare(t api.Trades, a, b int) bool {
	if a == b || a == -1 || b == -1 {
		return true
	}
	for class := range t.Classes {
		l, _ := trade.Under(t, class)
		if slices.Contains(l, a) && slices.Contains(l, b) {
			return true
		}
	}
	return false
}

// TestTwice is P6.4 and P6.12: a pair is in Twice just as the layers 3 and 4
// say, and a pair that is sure is also there without rules.
func TestTwice(t *testing.T) {
	d := die{state: 12}
	m := met{}
	for range 3000 {
		v := d.volume()
		var want []api.Twin
		for i, p := range v.People {
			for j, q := range v.People {
				verdict, _ := name.Verdict(v.Rules, p.Name, q.Name)
				pKey, _ := name.Key(p.Name)
				qKey, _ := name.Key(q.Name)
				if i >= j || p.Street != q.Street || p.Number != q.Number || verdict == api.Out || !mayShare(v.Trades, p.Head, q.Head) {
					continue
				}
				twin := api.Twin{A: i, B: j, Verdict: api.Open}
				if pKey == qKey && p.Head == q.Head {
					twin.Verdict = api.Sure
				}
				want = append(want, twin)
				m[[]string{"", "sure", "", "open"}[twin.Verdict]]++
			}
		}
		l, e := part.Twice(v)
		mustBe(t, "Twice", e, api.OK)
		mustEqual(t, "Twice", l, want)
		plain := v
		plain.Rules = nil
		fewer, _ := part.Twice(plain)
		for _, twin := range l {
			if twin.Verdict == api.Sure && !slices.Contains(fewer, twin) {
				t.Fatalf("%v: %v is not there without rules", v, twin)
			}
		}
	}
	m.mustAll(t, 300, "sure", "open")
}
