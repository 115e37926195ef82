package index_test

import (
	"fmt"
	"math"
	"slices"
	"strings"
	"testing"

	"decamp/api"
	"decamp/hist"
	"decamp/index"
	"decamp/order"
)

// top is the greatest number of a version.
const top = 1 << 40

// key is a key, and what it was.
type key = order.Pair[string, []api.Ver]

// there is a version that isn't Gone.
func there(rev, made, mod, version int64, value string, lease int64) api.Ver {
	return api.Ver{Rev: rev, Make: made, Mod: mod, Version: version, Value: value, Lease: lease}
}

// gone is a version that is.
func gone(rev, mod int64) api.Ver { return api.Ver{Rev: rev, Mod: mod, Gone: true} }

// item is a key, and one version of it.
func item(key string, v api.Ver) api.Item { return api.Item{Key: key, V: v} }

// town is what most is asked of: keys in order, some of them Gone, some within others' names; of one revision there are several keys, and Mods are others than Revs.
func town() []key {
	return []key{
		{Key: "a", V: []api.Ver{there(2, 20, 20, 1, "one", 7), there(5, 20, 50, 2, "six", 0)}},
		{Key: "b", V: []api.Ver{there(3, 30, 30, 1, "two", 0), gone(6, 60)}},
		{Key: "c", V: []api.Ver{there(4, 40, 40, 1, "three", 7)}},
		{Key: "c/x", V: []api.Ver{there(4, 40, 40, 1, "four", -7), gone(7, 70), there(9, 90, 90, 1, "eight", 7)}},
		{Key: "c/y", V: []api.Ver{there(4, 40, 40, 1, "five", 0), gone(7, 70)}},
		{Key: "d", V: []api.Ver{there(10, 100, 100, 1, "", -7)}},
		{Key: "~", V: []api.Ver{there(12, 120, 120, 1, "last", 9)}},
	}
}

// laid is an Index of these keys, each version of which was added.
func laid(t *testing.T, keys ...key) index.Index {
	t.Helper()
	var x index.Index
	for _, k := range keys {
		for _, v := range k.V {
			y, e := x.Add(k.Key, v)
			if e != api.OK {
				t.Fatalf("Add of %q, %+v: %v", k.Key, v, e)
			}
			x = y
		}
	}
	return x
}

// without is keys without those that are named.
func without(keys []key, names ...string) []key {
	return slices.DeleteFunc(slices.Clone(keys), func(k key) bool { return slices.Contains(names, k.Key) })
}

// with is keys, with one version more of the one that is named.
func with(keys []key, name string, v api.Ver) []key {
	l := slices.Clone(keys)
	at, ok := slices.BinarySearchFunc(l, name, func(k key, name string) int { return strings.Compare(k.Key, name) })
	if !ok {
		return slices.Insert(l, at, key{Key: name, V: []api.Ver{v}})
	}
	l[at].V = append(slices.Clone(l[at].V), v)
	return l
}

// text tells all of something.
func text(a any) string { return fmt.Sprintf("%+v", a) }

// stands holds that an Index has just these keys, with what they were.
func stands(t *testing.T, what string, x index.Index, want []key) {
	t.Helper()
	same := func(a, b key) bool { return a.Key == b.Key && slices.Equal(a.V, b.V) }
	if got := x.All(); !slices.EqualFunc(got, want, same) {
		t.Errorf("%s: %s, want %s", what, text(got), text(want))
	}
}

// comes holds that a call has made an Index of just these keys.
func comes(t *testing.T, what string, x index.Index, e api.Errno, want []key) {
	t.Helper()
	if e != api.OK {
		t.Errorf("%s: %v", what, e)
	}
	stands(t, what, x, want)
}

// fails holds that a call has answered this error, and nothing beside it.
func fails(t *testing.T, what string, x index.Index, e, want api.Errno) {
	t.Helper()
	if e != want {
		t.Errorf("%s: %v, want %v", what, e, want)
	}
	stands(t, what, x, nil)
}

// number is one at an edge, and whether it may be there.
type number struct {
	v  int64
	ok bool
}

// numbers are what a rev and a mod are asked with.
func numbers() []number {
	return []number{
		{math.MinInt64, false},
		{-top, false},
		{-1, false},
		{0, false},
		{1, true},
		{2, true},
		{1 << 32, true},
		{top - 1, true},
		{top, true},
		{top + 1, false},
		{math.MaxInt64, false},
	}
}

// leases are what a lease is asked with.
func leases() []number {
	return []number{
		{math.MinInt64, false},
		{-top - 1, false},
		{-top, true},
		{-1, true},
		{0, true},
		{1, true},
		{top, true},
		{top + 1, false},
		{math.MaxInt64, false},
	}
}

// noKeys are texts that aren't keys.
func noKeys() []string {
	return []string{
		"",
		" ",
		"\x00",
		"\x1f",
		"\x7f",
		"\x80",
		"\xff",
		"a ",
		" a",
		"a b",
		"a\x00",
		"a\x7f",
		"\x7fa",
		"a\x7fb",
		"\u00e4",
		"a\xffb",
		strings.Repeat("k", 33),
		strings.Repeat("k", 31) + " ",
		strings.Repeat("k", 64),
		strings.Repeat("k", 1<<16),
	}
}

// noRanges are two texts each that aren't a range.
func noRanges() [][2]string {
	l := [][2]string{
		{"", ""},
		{"", "a"},
		{"a", "a"},
		{"b", "a"},
		{"ab", "a"},
		{"a", "A"},
		{"~", "~"},
		{"~", "}"},
		{"a", "b "},
		{"a", "b\x00"},
		{"a", "\x80"},
		{"a", "b\x80"},
		{"a", "b\xff"},
		{"a", "a\x1f"},
		{"a", strings.Repeat("k", 33)},
		{"a", strings.Repeat("\x7f", 33)},
		{"a", strings.Repeat("k", 1<<16)},
		{strings.Repeat("k", 32), strings.Repeat("k", 32)},
	}
	for _, s := range noKeys() {
		l = append(l, [2]string{s, ""}, [2]string{s, "~"}, [2]string{s, "\x7f"}, [2]string{s, s + "a"})
	}
	return l
}

// P15.1: the zero Index has no keys.
func TestZeroIndex(t *testing.T) {
	var x index.Index
	stands(t, "the zero Index", x, nil)
	if v, ok := x.Live("a"); ok || v != (api.Ver{}) {
		t.Errorf("Live: %+v, %v", v, ok)
	}
	if l, n := x.At("!", "\x7f", top, 9); len(l) != 0 || n != 0 {
		t.Errorf("At: %+v, %d", l, n)
	}
	if l, all := x.Behind("", "", top, 9); len(l) != 0 || !all {
		t.Errorf("Behind: %+v, %v", l, all)
	}
	if l := x.Changes("!", "\x7f", 0, top, 9); len(l) != 0 {
		t.Errorf("Changes: %+v", l)
	}
	if l := x.Leased(7); len(l) != 0 {
		t.Errorf("Leased: %v", l)
	}
	stands(t, "Drop of the zero Index", x.Drop("!", "\x7f"), nil)
	stands(t, "Trim of the zero Index", x.Trim(top), nil)
	y, n, e := x.Del("!", "\x7f", 1, 1)
	comes(t, "Del of the zero Index", y, e, nil)
	if n != 0 {
		t.Errorf("Del of the zero Index: %d", n)
	}
}

// P15.1: the chapter's example.
func TestPutAndDel(t *testing.T) {
	var x index.Index
	x, e := x.Put("a", 1, 1, "v", 0)
	comes(t, "Put of a", x, e, []key{{Key: "a", V: []api.Ver{there(1, 1, 1, 1, "v", 0)}}})
	x, e = x.Put("b", 2, 2, "w", 3)
	comes(t, "Put of b", x, e, []key{{Key: "a", V: []api.Ver{there(1, 1, 1, 1, "v", 0)}}, {Key: "b", V: []api.Ver{there(2, 2, 2, 1, "w", 3)}}})
	x, n, e := x.Del("a", "c", 3, 3)
	comes(t, "Del of a to c", x, e, []key{{Key: "a", V: []api.Ver{there(1, 1, 1, 1, "v", 0), gone(3, 3)}}, {Key: "b", V: []api.Ver{there(2, 2, 2, 1, "w", 3), gone(3, 3)}}})
	if n != 2 {
		t.Errorf("%d are gone", n)
	}
}

// P15.2: All tells each key with all that it was, rising, in whatever order they came.
func TestAll(t *testing.T) {
	stands(t, "town", laid(t, town()...), town())
	backwards := town()
	slices.Reverse(backwards)
	stands(t, "town, laid backwards", laid(t, backwards...), town())
	many := []key{}
	for n := range 1000 {
		many = append(many, key{Key: fmt.Sprintf("k%03d", n), V: []api.Ver{there(int64(n)+1, 1, 1, 1, "v", 0)}})
	}
	mixed := []key{}
	for n := range many {
		mixed = append(mixed, many[n*377%1000])
	}
	stands(t, "a thousand", laid(t, mixed...), many)
}

// P15.1: Live answers layer 14's of the key alone: of none, of what is no key, and of what is Gone there is none.
func TestLive(t *testing.T) {
	x := laid(t, town()...)
	for _, k := range town() {
		v, ok := x.Live(k.Key)
		want, wantOk := hist.Live(k.V)
		if v != want || ok != wantOk {
			t.Errorf("Live of %q: %+v, %v, want %+v, %v", k.Key, v, ok, want, wantOk)
		}
	}
	if v, ok := x.Live("a"); !ok || v != there(5, 20, 50, 2, "six", 0) {
		t.Errorf("Live of a: %+v, %v", v, ok)
	}
	if v, ok := x.Live("b"); ok || v != (api.Ver{}) {
		t.Errorf("Live of b: %+v, %v", v, ok)
	}
	for _, s := range append(noKeys(), "A", "aa", "c/", "c/z", "e", "}", "~~") {
		if v, ok := x.Live(s); ok || v != (api.Ver{}) {
			t.Errorf("Live of %q: %+v, %v", s, v, ok)
		}
	}
}
