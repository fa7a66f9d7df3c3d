package name_test

import (
	"strings"
	"testing"

	"wayzgoose/api"
	"wayzgoose/name"
)

// TestCheck is about P3.1: the errors of a name, in their order, and that Key
// and Other return them too.
func TestCheck(t *testing.T) {
	for _, c := range []struct {
		name string
		want api.Errno
	}{
		{"chad", api.OK},
		{"CAD", api.OK},
		{"a", api.OK},
		{"A", api.OK},
		{"Z", api.OK},
		{"hqwjcy", api.OK},
		{"CJXYCJ", api.OK},
		{"CaD", api.ErrForm},
		{"cAD", api.ErrForm},
		{"chaD", api.ErrForm},
		{"HAT", api.ErrForm},
		{"Q", api.ErrForm},
		{"AWA", api.ErrForm},
		{"AH", api.ErrForm},
		{"", api.ErrShort},
		{"chadwi", api.OK},
		{"chadwik", api.ErrLong},
		{"CADCADC", api.ErrLong},
		{"HHHHHHH", api.ErrLong},
		{"       ", api.ErrLong},
		{" ", api.ErrForm},
		{"ab c", api.ErrForm},
		{"abc\n", api.ErrForm},
		{"a.", api.ErrForm},
		{"a1", api.ErrForm},
		{"`", api.ErrForm},
		{"{", api.ErrForm},
		{"@", api.ErrForm},
		{"[", api.ErrForm},
		{"a\x00", api.ErrForm},
		{"a\xff", api.ErrForm},
		{"\xc3", api.ErrForm},
		{"é", api.ErrForm},
		{"aéaéa", api.ErrLong},
		{"aééa", api.ErrForm},
		{"АВС", api.ErrForm},
		{"\uff41", api.ErrForm},
	} {
		_, key := name.Key(c.name)
		_, other := name.Other(c.name)
		if other == api.ErrNone {
			other = api.OK
		}
		mustBe(t, "Check of "+c.name, name.Check(c.name), c.want)
		mustBe(t, "Key of "+c.name, key, c.want)
		mustBe(t, "Other of "+c.name, other, c.want)
	}
}

// TestCheckBytes is about P3.1: names of all bytes, alone, and before and after
// each other one.
func TestCheckBytes(t *testing.T) {
	for i := range 256 {
		for j := range 256 {
			for _, s := range []string{string([]byte{byte(i)}), string([]byte{byte(i), byte(j)})} {
				if e := name.Check(s); e != nameError(s) {
					t.Fatalf("%q: error %d, want %d", s, e, nameError(s))
				}
			}
		}
	}
}

// TestKey is about P3.1: what the letters stand for.
func TestKey(t *testing.T) {
	for _, c := range []struct{ name, key string }{
		{"chad", "chad"},
		{"CAD", "chad"},
		{"YN", "jan"},
		{"JRI", "juri"},
		{"XAV", "shav"},
		{"ABCDEF", "abchdef"},
		{"GIJKLM", "gijuklm"},
		{"NOPRST", "noprst"},
		{"UVXYZ", "uvshjaz"},
		{"CCCCCC", "chchchchchch"},
		{"YJYJYJ", "jajujajujaju"},
		{"xyzwhq", "xyzwhq"},
	} {
		key, e := name.Key(c.name)
		if key != c.key || e != api.OK {
			t.Errorf("%s: %s, error %d, want %s", c.name, key, e, c.key)
		}
	}
}

// TestOther is about P3.1: the name of the other alphabet.
func TestOther(t *testing.T) {
	for _, c := range []struct{ name, other string }{
		{"chad", "CAD"},
		{"jan", "YN"},
		{"john", ""},
		{"CAD", "CAD"},
		{"juri", "JRI"},
		{"shav", "XAV"},
		{"sshs", "SXS"},
		{"shh", ""},
		{"sch", "SC"},
		{"ss", "SS"},
		{"chchch", "CCC"},
		{"jujaju", "JYJ"},
		{"c", ""},
		{"ac", ""},
		{"ca", ""},
		{"cch", ""},
		{"j", ""},
		{"je", ""},
		{"jj", ""},
		{"h", ""},
		{"ah", ""},
		{"q", ""},
		{"w", ""},
		{"x", ""},
		{"y", ""},
		{"aya", ""},
		{"abdefg", "ABDEFG"},
		{"iklmno", "IKLMNO"},
		{"prstuv", "PRSTUV"},
		{"z", "Z"},
		{"YYYYYY", "YYYYYY"},
	} {
		other, e := name.Other(c.name)
		want := api.OK
		if c.other == "" {
			want = api.ErrNone
		}
		if other != c.other || e != want {
			t.Errorf("%s: %q, error %d, want %q", c.name, other, e, c.other)
		}
	}
}

// each calls what for all strings of at most size letters.
func each(letters string, size int, what func(string)) {
	var grow func(s string)
	grow = func(s string) {
		if s != "" {
			what(s)
		}
		if len(s) == size {
			return
		}
		for _, r := range letters {
			grow(s + string(r))
		}
	}
	grow("")
}

// TestOne is P3.6: names of the other alphabet have different keys, and Other
// has the key of its name and is its own other. It is P3.1 too: there is just
// no other name where none of the other alphabet has the key.
func TestOne(t *testing.T) {
	byKey := map[string]string{}
	met := func(s string) {
		key, e := name.Key(s)
		if before, ok := byKey[key]; e != api.OK || key != keyOf(s) || ok && before != s {
			t.Fatalf("%s and %s: key %s, error %d", s, before, key, e)
		}
		byKey[key] = s
		if other, e := name.Other(s); other != s || e != api.OK {
			t.Fatalf("other of %s: %s, error %d", s, other, e)
		}
	}
	each(otherLetters, 3, met)
	each("ACSX", 6, met)
	each("AUCJY", 6, met)
	check := func(s string) {
		other, e := name.Other(s)
		if other != byKey[s] || (e == api.OK) != (other != "") || e != api.OK && e != api.ErrNone {
			t.Fatalf("other of %s: %q, error %d, want %q", s, other, e, byKey[s])
		}
		if key, _ := name.Key(other); e == api.OK && key != s {
			t.Fatalf("other of %s: %s with the key %s", s, other, key)
		}
	}
	each(latinLetters, 3, check)
	each("achs", 6, check)
	each("uachj", 6, check)
}

// TestCompare is about P3.2: which name comes first, and the errors of Compare.
func TestCompare(t *testing.T) {
	for _, c := range []struct {
		a, b string
		want int
	}{
		{"chad", "CAD", -1},
		{"CAD", "chad", 1},
		{"BEN", "chad", -1},
		{"CAD", "CAD", 0},
		{"chad", "chad", 0},
		{"ch", "cha", -1},
		{"CA", "C", 1},
		{"C", "D", -1},
		{"C", "cz", -1},
		{"X", "si", -1},
		{"X", "S", 1},
		{"Y", "J", -1},
		{"z", "A", 1},
		{"a", "Z", -1},
		{"A", "a", 1},
		{"A", "aa", -1},
		{"YN", "janx", -1},
	} {
		n, e := name.Compare(c.a, c.b)
		if n != c.want || e != api.OK {
			t.Errorf("%s and %s: %d, error %d, want %d", c.a, c.b, n, e, c.want)
		}
	}
	for _, c := range []struct {
		a, b string
		want api.Errno
	}{
		{"", "", api.ErrShort},
		{"", "HAT", api.ErrShort},
		{"a", "", api.ErrShort},
		{"HAT", "", api.ErrForm},
		{"chadwik", "HAT", api.ErrLong},
		{"a", "chadwik", api.ErrLong},
		{"a", "aB", api.ErrForm},
	} {
		n, e := name.Compare(c.a, c.b)
		if n != 0 || e != c.want {
			t.Errorf("%q and %q: %d, error %d, want %d", c.a, c.b, n, e, c.want)
		}
	}
}

// TestLine is P3.7: of two names just one comes first, and the order of three
// names has no circle.
func TestLine(t *testing.T) {
	d := die{state: 37}
	before := func(a, b string) bool {
		n, e := name.Compare(a, b)
		if e != api.OK || n != compare(a, b) {
			t.Fatalf("%s and %s: %d, error %d, want %d", a, b, n, e, compare(a, b))
		}
		return n < 0
	}
	for range 20000 {
		a, b := d.name(), d.name()
		if d.throw(2) == 0 {
			b = d.alike(a)
		}
		c := d.alike(b)
		if a != b && before(a, b) == before(b, a) {
			t.Fatalf("%s and %s: none or both come first", a, b)
		}
		if a == b && before(a, b) {
			t.Fatalf("%s comes before itself", a)
		}
		if before(a, b) && before(b, c) && !before(a, c) {
			t.Fatalf("%s, %s and %s: a circle", a, b, c)
		}
	}
	if strings.Compare("Z", "a") > 0 || !before("a", "Z") {
		t.Error("the order is that of the keys, not of the bytes of names")
	}
}
