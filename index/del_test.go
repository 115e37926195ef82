package index_test

import (
	"math"
	"testing"

	"decamp/api"
	"decamp/index"
)

// deleted are keys of which those that are named are Gone at rev and mod.
func deleted(keys []key, rev, mod int64, names ...string) []key {
	for _, name := range names {
		keys = with(keys, name, gone(rev, mod))
	}
	return keys
}

// P15.1: a Del of a range has all live keys in it Gone, and tells how many they were; those that are Gone, and those beyond, stay.
func TestDel(t *testing.T) {
	for _, c := range []struct {
		from, end string
		names     []string
	}{
		{"a", "", []string{"a"}},
		{"a", "b", []string{"a"}},
		{"a", "a!", []string{"a"}},
		{"a", "c", []string{"a"}},
		{"a", "c!", []string{"a", "c"}},
		{"b", "", nil},
		{"b", "c", nil},
		{"c", "", []string{"c"}},
		{"c", "d", []string{"c", "c/x"}},
		{"c", "c/x", []string{"c"}},
		{"c", "c/y", []string{"c", "c/x"}},
		{"c/", "c0", []string{"c/x"}},
		{"c/", "", nil},
		{"c/y", "", nil},
		{"c/y", "~", []string{"d"}},
		{"e", "~", nil},
		{"!", "a", nil},
		{"!", "\x7f", []string{"a", "c", "c/x", "d", "~"}},
		{"~", "\x7f", []string{"~"}},
		{"~!", "\x7f", nil},
	} {
		x := laid(t, town()...)
		y, n, e := x.Del(c.from, c.end, 13, 130)
		comes(t, "Del of "+c.from+", "+c.end, y, e, deleted(town(), 13, 130, c.names...))
		if n != int64(len(c.names)) {
			t.Errorf("Del of %q, %q: %d", c.from, c.end, n)
		}
		stands(t, "what it was made of", x, town())
		z, n, e := y.Del(c.from, c.end, 14, 140)
		comes(t, "Del once more", z, e, deleted(town(), 13, 130, c.names...))
		if n != 0 {
			t.Errorf("Del of %q, %q once more: %d", c.from, c.end, n)
		}
	}
}

// P15.1: a Del of what is no range is ErrArg, and none are gone.
func TestDelOfNoRange(t *testing.T) {
	for _, x := range []index.Index{{}, laid(t, town()...)} {
		for _, r := range noRanges() {
			for _, at := range []int64{0, 13, top} {
				y, n, e := x.Del(r[0], r[1], at, 10*at)
				fails(t, "Del of no range", y, e, api.ErrArg)
				if n != 0 {
					t.Errorf("Del of %q, %q: %d", r[0], r[1], n)
				}
			}
		}
	}
}

// P15.1: rev and mod of a Del are layer 14's, where there is a live key; where there is none, they are asked of nobody.
func TestDelArguments(t *testing.T) {
	keys := []key{{Key: "a", V: []api.Ver{there(1, 1, 1, 1, "", 0)}}, {Key: "b", V: []api.Ver{gone(5, 5)}}}
	x := laid(t, keys...)
	for _, rev := range numbers() {
		for _, mod := range numbers() {
			y, n, e := x.Del("a", "c", rev.v, mod.v)
			if rev.ok && mod.ok && rev.v > 1 && mod.v > 1 {
				comes(t, "Del of a to c", y, e, deleted(keys, rev.v, mod.v, "a"))
			} else {
				fails(t, "Del of a to c", y, e, api.ErrArg)
			}
			if (n == 1) != (e == api.OK) || n > 1 || n < 0 {
				t.Errorf("Del at %d, %d: %d", rev.v, mod.v, n)
			}
			y, n, e = x.Del("b", "", rev.v, mod.v)
			comes(t, "Del of what is Gone", y, e, keys)
			if n != 0 {
				t.Errorf("Del of what is Gone: %d", n)
			}
			y, n, e = x.Del("c", "\x7f", rev.v, mod.v)
			comes(t, "Del of none", y, e, keys)
			if n != 0 {
				t.Errorf("Del of none: %d", n)
			}
		}
	}
}

// P15.1: if one of many can't be deleted, be it first, last or between, none is, and it is ErrArg.
func TestDelOfOneThatCannotBe(t *testing.T) {
	for _, late := range []string{"a", "c", "c/x", "d", "~"} {
		for _, v := range []api.Ver{there(20, 1, 125, 9, "late", 0), there(13, 1, 200, 9, "late", 0), there(20, 1, 200, 9, "late", 0)} {
			keys := with(town(), late, v)
			x := laid(t, keys...)
			for _, at := range [][2]int64{{13, 200}, {20, 125}, {13, 125}, {13, 130}, {19, 199}} {
				y, n, e := x.Del("a", "\x7f", at[0], at[1])
				if at[0] > v.Rev && at[1] > v.Mod {
					comes(t, "Del", y, e, deleted(keys, at[0], at[1], "a", "c", "c/x", "d", "~"))
					continue
				}
				fails(t, "Del of all, of which "+late+" can't be", y, e, api.ErrArg)
				if n != 0 {
					t.Errorf("Del: %d", n)
				}
				stands(t, "what it was asked of", x, keys)
			}
			y, n, e := x.Del("a", "\x7f", 21, 201)
			comes(t, "Del of all", y, e, deleted(keys, 21, 201, "a", "c", "c/x", "d", "~"))
			if n != 5 {
				t.Errorf("Del of all: %d", n)
			}
		}
	}
	// One that is Gone isn't deleted, so its Rev and Mod aren't asked for.
	keys := with(town(), "b", gone(30, 300))
	y, n, e := laid(t, keys...).Del("a", "d", 13, 130)
	comes(t, "Del ahead of one that is Gone", y, e, deleted(keys, 13, 130, "a", "c", "c/x"))
	if n != 3 {
		t.Errorf("Del ahead of one that is Gone: %d", n)
	}
}

// P15.1: a Drop leaves nothing of the keys in the range, whether they are there or Gone: of no range all is as it was.
func TestDrop(t *testing.T) {
	for _, c := range []struct {
		from, end string
		names     []string
	}{
		{"a", "", []string{"a"}},
		{"aa", "", nil},
		{"b", "", []string{"b"}},
		{"b", "c", []string{"b"}},
		{"b", "c!", []string{"b", "c"}},
		{"c", "", []string{"c"}},
		{"c", "c/", []string{"c"}},
		{"c/", "c0", []string{"c/x", "c/y"}},
		{"c", "d", []string{"c", "c/x", "c/y"}},
		{"e", "~", nil},
		{"!", "a", nil},
		{"!", "\x7f", []string{"a", "b", "c", "c/x", "c/y", "d", "~"}},
		{"a", "~", []string{"a", "b", "c", "c/x", "c/y", "d"}},
		{"~", "\x7f", []string{"~"}},
	} {
		x := laid(t, town()...)
		y := x.Drop(c.from, c.end)
		stands(t, "Drop of "+c.from+", "+c.end, y, without(town(), c.names...))
		stands(t, "what it was made of", x, town())
		stands(t, "Drop once more", y.Drop(c.from, c.end), without(town(), c.names...))
		for _, name := range c.names {
			z, e := y.Put(name, 1, 1, "new", 0)
			comes(t, "Put of what was dropped", z, e, with(without(town(), c.names...), name, there(1, 1, 1, 1, "new", 0)))
		}
	}
	for _, r := range noRanges() {
		stands(t, "Drop of no range", laid(t, town()...).Drop(r[0], r[1]), town())
	}
}

// P15.2: a Trim is layer 14's of each key; one without versions is gone.
func TestTrim(t *testing.T) {
	for floor, want := range map[int64][]key{
		math.MinInt64: town(),
		0:             town(),
		1:             town(),
		2:             town(),
		4:             town(),
		5: {
			{Key: "a", V: town()[0].V[1:]}, town()[1], town()[2], town()[3], town()[4], town()[5], town()[6],
		},
		6: {
			{Key: "a", V: town()[0].V[1:]}, town()[2], town()[3], town()[4], town()[5], town()[6],
		},
		7: {
			{Key: "a", V: town()[0].V[1:]}, town()[2], {Key: "c/x", V: town()[3].V[2:]}, town()[5], town()[6],
		},
		8: {
			{Key: "a", V: town()[0].V[1:]}, town()[2], {Key: "c/x", V: town()[3].V[2:]}, town()[5], town()[6],
		},
		12: {
			{Key: "a", V: town()[0].V[1:]}, town()[2], {Key: "c/x", V: town()[3].V[2:]}, town()[5], town()[6],
		},
		math.MaxInt64: {
			{Key: "a", V: town()[0].V[1:]}, town()[2], {Key: "c/x", V: town()[3].V[2:]}, town()[5], town()[6],
		},
	} {
		x := laid(t, town()...)
		y := x.Trim(floor)
		stands(t, "Trim at "+text(floor), y, want)
		stands(t, "Trim once more", y.Trim(floor), want)
		stands(t, "what it was made of", x, town())
	}
}

// P15.2: of keys that are all Gone a Trim leaves none, and what is put then begins anew, at any revision.
func TestTrimOfAll(t *testing.T) {
	x := laid(t, town()...)
	x, n, e := x.Del("!", "\x7f", 13, 130)
	if n != 5 || e != api.OK {
		t.Fatalf("Del of all: %d, %v", n, e)
	}
	left := []key{{Key: "a", V: town()[0].V[1:]}, town()[2], {Key: "c/x", V: town()[3].V[2:]}, town()[5], town()[6]}
	stands(t, "Trim at 12", x.Trim(12), deleted(left, 13, 130, "a", "c", "c/x", "d", "~"))
	stands(t, "Trim at 13", x.Trim(13), nil)
	stands(t, "Trim behind all", x.Trim(top), nil)
	z, e := x.Trim(13).Put("a", 1, 1, "new", 0)
	comes(t, "Put behind a Trim", z, e, []key{{Key: "a", V: []api.Ver{there(1, 1, 1, 1, "new", 0)}}})
}

// P15.2: a Trim of many keys, some of which go, some of which lose versions, and some of which stay.
func TestTrimOfMany(t *testing.T) {
	many, want := []key{}, []key{}
	for n := range int64(900) {
		k := key{Key: "k" + string([]byte{byte('a' + n/26/26), byte('a' + n/26%26), byte('a' + n%26)})}
		switch n % 3 {
		case 0:
			k.V = []api.Ver{there(1, 1, 1, 1, "", 0), gone(5, 5)}
		case 1:
			k.V = []api.Ver{there(1, 1, 1, 1, "", 0), there(4, 1, 4, 2, "", n), gone(9, 9)}
			want = append(want, key{Key: k.Key, V: k.V[1:]})
		case 2:
			k.V = []api.Ver{there(3, 3, 3, 1, "", n)}
			want = append(want, k)
		}
		many = append(many, k)
	}
	x := laid(t, many...)
	stands(t, "Trim", x.Trim(5), want)
	stands(t, "what it was made of", x, many)
}
