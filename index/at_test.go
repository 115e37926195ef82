package index_test

import (
	"fmt"
	"math"
	"slices"
	"strings"
	"testing"

	"decamp/api"
	"decamp/index"
)

// mosts are what a most is asked with, of few items.
func mosts() []int { return []int{math.MinInt, -1, 0, 1, 2, 3, 4, 5, 6, 7, 8, 1000, math.MaxInt} }

// first are the first ones of items, most of them at most.
func first(l []api.Item, most int) []api.Item { return l[:max(0, min(most, len(l)))] }

// heldAt holds At of a range at rev, whatever the most is: these, and so many.
func heldAt(t *testing.T, x index.Index, from, end string, rev int64, want ...api.Item) {
	t.Helper()
	for _, most := range mosts() {
		got, n := x.At(from, end, rev, most)
		if !slices.Equal(got, first(want, most)) || n != int64(len(want)) {
			t.Errorf("At of %q, %q, %d, %d: %s, %d, want %s", from, end, rev, most, text(got), n, text(want))
		}
	}
}

// heldBehind holds Behind, whatever the most is: these, and whether it were all.
func heldBehind(t *testing.T, x index.Index, prefix, after string, rev int64, want ...api.Item) {
	t.Helper()
	for _, most := range mosts() {
		got, all := x.Behind(prefix, after, rev, most)
		if !slices.Equal(got, first(want, most)) || all != (max(0, most) >= len(want)) {
			t.Errorf("Behind of %q, %q, %d, %d: %s, %v, want %s", prefix, after, rev, most, text(got), all, text(want))
		}
	}
}

// spring and late are what town was at 4 and 5, and is from 12 on.
func spring() []api.Item {
	k := town()
	return []api.Item{item("a", k[0].V[0]), item("b", k[1].V[0]), item("c", k[2].V[0]), item("c/x", k[3].V[0]), item("c/y", k[4].V[0])}
}

func late() []api.Item {
	k := town()
	return []api.Item{item("a", k[0].V[1]), item("c", k[2].V[0]), item("c/x", k[3].V[2]), item("d", k[5].V[0]), item("~", k[6].V[0])}
}

// P15.2: At tells all keys of a range as they were, ahead of the first revision, at each one and behind the last one.
func TestAtEachRevision(t *testing.T) {
	x, s, l := laid(t, town()...), spring(), late()
	for rev, want := range map[int64][]api.Item{
		math.MinInt64: nil,
		-1:            nil,
		0:             nil,
		1:             nil,
		2:             {s[0]},
		3:             {s[0], s[1]},
		4:             s,
		5:             {l[0], s[1], s[2], s[3], s[4]},
		6:             {l[0], s[2], s[3], s[4]},
		7:             {l[0], s[2]},
		8:             {l[0], s[2]},
		9:             {l[0], l[1], l[2]},
		10:            {l[0], l[1], l[2], l[3]},
		11:            {l[0], l[1], l[2], l[3]},
		12:            l,
		13:            l,
		20:            l,
		120:           l,
		top:           l,
		top + 1:       l,
		math.MaxInt64: l,
	} {
		heldAt(t, x, "!", "\x7f", rev, want...)
		heldAt(t, x, "a", "~\x7f", rev, want...)
		heldBehind(t, x, "", "", rev, want...)
	}
}

// P15.2: At tells of the keys in the range alone, the end not with it; of an empty end from alone.
func TestAtOfRanges(t *testing.T) {
	x, s, l := laid(t, town()...), spring(), late()
	heldAt(t, x, "a", "", 12, l[0])
	heldAt(t, x, "a", "", 4, s[0])
	heldAt(t, x, "a!", "", 12)
	heldAt(t, x, "a", "a!", 12, l[0])
	heldAt(t, x, "b", "", 12)
	heldAt(t, x, "b", "", 5, s[1])
	heldAt(t, x, "b", "c", 12)
	heldAt(t, x, "c", "", 12, l[1])
	heldAt(t, x, "c", "d", 12, l[1], l[2])
	heldAt(t, x, "c", "d", 4, s[2], s[3], s[4])
	heldAt(t, x, "c", "c/x", 12, l[1])
	heldAt(t, x, "c", "c/x!", 12, l[1], l[2])
	heldAt(t, x, "c/", "c0", 12, l[2])
	heldAt(t, x, "c/", "c0", 8)
	heldAt(t, x, "c/", "", 12)
	heldAt(t, x, "c/y", "~", 12, l[3])
	heldAt(t, x, "d", "\x7f", 12, l[3], l[4])
	heldAt(t, x, "~", "\x7f", 12, l[4])
	heldAt(t, x, "~", "", 12, l[4])
	heldAt(t, x, "~!", "\x7f", 12)
	heldAt(t, x, "!", "a", 12)
	for _, r := range noRanges() {
		heldAt(t, x, r[0], r[1], 12)
		heldAt(t, x, r[0], r[1], 4)
	}
}

// P15.2: Behind tells of the keys that begin with the prefix, and are above after, be that one of them, below or above them all.
func TestBehind(t *testing.T) {
	x, s, l := laid(t, town()...), spring(), late()
	heldBehind(t, x, "c", "", 4, s[2], s[3], s[4])
	heldBehind(t, x, "c", "", 12, l[1], l[2])
	heldBehind(t, x, "c", "a", 4, s[2], s[3], s[4])
	heldBehind(t, x, "c", "b", 4, s[2], s[3], s[4])
	heldBehind(t, x, "c", "b~", 4, s[2], s[3], s[4])
	heldBehind(t, x, "c", "c", 4, s[3], s[4])
	heldBehind(t, x, "c", "c/", 4, s[3], s[4])
	heldBehind(t, x, "c", "c/w~", 4, s[3], s[4])
	heldBehind(t, x, "c", "c/x", 4, s[4])
	heldBehind(t, x, "c", "c/x", 12)
	heldBehind(t, x, "c", "c/x!", 4, s[4])
	heldBehind(t, x, "c", "c/x\x00", 4, s[4])
	heldBehind(t, x, "c", "c/y", 4)
	heldBehind(t, x, "c", "c/z", 4)
	heldBehind(t, x, "c", "d", 12)
	heldBehind(t, x, "c", "~~", 12)
	heldBehind(t, x, "c", "\xff", 4)
	heldBehind(t, x, "c/", "", 4, s[3], s[4])
	heldBehind(t, x, "c/", "c", 4, s[3], s[4])
	heldBehind(t, x, "c/", "", 12, l[2])
	heldBehind(t, x, "c/", "", 8)
	heldBehind(t, x, "c/x", "", 12, l[2])
	heldBehind(t, x, "c/x", "c/x", 12)
	heldBehind(t, x, "b", "", 12)
	heldBehind(t, x, "b", "", 3, s[1])
	heldBehind(t, x, "~", "", 12, l[4])
	heldBehind(t, x, "~", "~", 12)
	heldBehind(t, x, "~", "}", 12, l[4])
	heldBehind(t, x, "", "a", 12, l[1:]...)
	heldBehind(t, x, "", "A", 12, l...)
	heldBehind(t, x, "", "c", 12, l[2:]...)
	heldBehind(t, x, "", "c/y", 12, l[3:]...)
	heldBehind(t, x, "", "~", 12)
	heldBehind(t, x, "", "\x7f", 12)
	heldBehind(t, x, "", "\x00", 12, l...)
}

// P15.2: of a prefix with which no key begins, or can, Behind tells of none, and that these are all.
func TestBehindOfPrefixesThatNoneHas(t *testing.T) {
	x := laid(t, town()...)
	for _, prefix := range append(noKeys(), "A", "aa", "c/xx", "c/z", "c0", "~~", "}", "!", "d!") {
		if prefix == "" {
			continue
		}
		for _, after := range append(noKeys(), "a", "c", "~") {
			heldBehind(t, x, prefix, after, 12)
			heldBehind(t, x, prefix, after, 4)
		}
	}
}

// P15.2: keys that are Gone, or aren't there yet, don't count for whether these are all.
func TestBehindPassesOverWhatIsGone(t *testing.T) {
	keys := []key{}
	for n := range 50 {
		k := key{Key: fmt.Sprintf("k%02d", n), V: []api.Ver{there(1, 1, 1, 1, "", 0), gone(2, 2)}}
		switch n {
		case 20, 30:
			k.V = k.V[:1]
		case 40:
			k.V = []api.Ver{there(9, 9, 9, 1, "", 0)}
		}
		keys = append(keys, k)
	}
	x := laid(t, keys...)
	a, b, c := item("k20", keys[20].V[0]), item("k30", keys[30].V[0]), item("k40", keys[40].V[0])
	heldBehind(t, x, "k", "", 8, a, b)
	heldBehind(t, x, "k", "", 9, a, b, c)
	heldBehind(t, x, "k", "k20", 8, b)
	heldBehind(t, x, "k", "k30", 8)
	heldBehind(t, x, "k3", "", 8, b)
	heldBehind(t, x, "k4", "", 8)
	heldBehind(t, x, "k4", "", 9, c)
	heldAt(t, x, "k", "l", 8, a, b)
	heldAt(t, x, "k", "l", 9, a, b, c)
}

// P15.2: page by page Behind tells all keys under a prefix, each once, with At's versions.
func TestBehindPageByPage(t *testing.T) {
	keys := []key{}
	for n := range int64(100) {
		keys = append(keys, key{Key: fmt.Sprintf("p/%02d", n), V: []api.Ver{there(n%7+1, 1, n%7+1, 1, "v", n)}})
	}
	keys = append(keys, key{Key: "p0", V: []api.Ver{there(1, 1, 1, 1, "", 0)}}, key{Key: "p.", V: []api.Ver{there(1, 1, 1, 1, "", 0)}})
	x := laid(t, keys...)
	for rev := range int64(9) {
		want, _ := x.At("p/", "p0", rev, 1000)
		for most := 1; most < 40; most++ {
			told, after := []api.Item{}, ""
			for range 200 {
				l, all := x.Behind("p/", after, rev, most)
				told = append(told, l...)
				if all {
					break
				}
				if len(l) != most {
					t.Fatalf("Behind of %d: %d, and more", most, len(l))
				}
				after = l[len(l)-1].Key
			}
			if !slices.Equal(told, want) {
				t.Errorf("at %d by %d: %s, want %s", rev, most, text(told), text(want))
			}
		}
	}
}

// P15.2: At tells how many there are in all, of many more than it tells.
func TestAtOfMany(t *testing.T) {
	keys := []key{}
	for n := range 3000 {
		keys = append(keys, key{Key: fmt.Sprintf("k%04d", n), V: []api.Ver{there(int64(n%10+1), 1, 1, 1, "v", 0)}})
	}
	x := laid(t, keys...)
	for rev := range int64(12) {
		l, n := x.At("k", "l", rev, 8)
		if n != min(rev, 10)*300 || len(l) != int(min(n, 8)) {
			t.Errorf("At %d: %d of %d", rev, len(l), n)
		}
	}
	l, n := x.At("k1", "k2", 20, 2)
	if n != 1000 || len(l) != 2 || l[0].Key != "k1000" || l[1].Key != "k1001" {
		t.Errorf("At of k1 to k2: %s, %d", text(l), n)
	}
}

// P15.2: Leased tells the keys that are there with that lease now, rising: not those that had it, and none of 0.
func TestLeased(t *testing.T) {
	x := laid(t, town()...)
	for lease, want := range map[int64][]string{
		math.MinInt64: nil, -top: nil, -9: nil, -8: nil,
		-7: {"d"},
		-1: nil, 0: nil, 1: nil, 6: nil,
		7:   {"c", "c/x"},
		8:   nil,
		9:   {"~"},
		top: nil, math.MaxInt64: nil,
	} {
		if got := x.Leased(lease); !slices.Equal(got, want) {
			t.Errorf("Leased of %d: %v", lease, got)
		}
	}
	y, _, e := x.Del("c", "", 13, 130)
	if got := y.Leased(7); e != api.OK || !slices.Equal(got, []string{"c/x"}) {
		t.Errorf("Leased of 7 behind a Del: %v", got)
	}
	y, e = x.Put("c/x", 13, 130, "v", -7)
	if got := y.Leased(-7); e != api.OK || !slices.Equal(got, []string{"c/x", "d"}) {
		t.Errorf("Leased of -7 behind a Put: %v", got)
	}
	y, e = y.Put("a", 13, 130, "v", top)
	if got := y.Leased(top); e != api.OK || !slices.Equal(got, []string{"a"}) {
		t.Errorf("Leased of the greatest: %v", got)
	}
	y, e = y.Put("b", 13, 130, "v", -top)
	if got := y.Leased(-top); e != api.OK || !slices.Equal(got, []string{"b"}) {
		t.Errorf("Leased of the least: %v", got)
	}
	if got := x.Drop("c", "d").Leased(7); len(got) != 0 {
		t.Errorf("Leased of 7 behind a Drop: %v", got)
	}
	if got := x.Trim(12).Leased(7); !slices.Equal(got, []string{"c", "c/x"}) {
		t.Errorf("Leased of 7 behind a Trim: %v", got)
	}
}

// P15.2: of 0 Leased tells none, though keys are there without a lease, and others are Gone.
func TestLeasedOfNone(t *testing.T) {
	x := laid(t,
		key{Key: "a", V: []api.Ver{there(1, 1, 1, 1, "", 0)}},
		key{Key: "b", V: []api.Ver{there(1, 1, 1, 1, "", 5), gone(2, 2)}},
		key{Key: strings.Repeat("k", 32), V: []api.Ver{there(1, 1, 1, 1, "", 0)}})
	for _, lease := range []int64{0, 5} {
		if got := x.Leased(lease); len(got) != 0 {
			t.Errorf("Leased of %d: %v", lease, got)
		}
	}
}
