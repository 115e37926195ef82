package index_test

import (
	"fmt"
	"math"
	"slices"
	"testing"

	"decamp/api"
	"decamp/index"
)

// news are all that changed in town, revision by revision.
func news() []api.Batch {
	k := town()
	return []api.Batch{
		{Rev: 2, L: []api.Item{item("a", k[0].V[0])}},
		{Rev: 3, L: []api.Item{item("b", k[1].V[0])}},
		{Rev: 4, L: []api.Item{item("c", k[2].V[0]), item("c/x", k[3].V[0]), item("c/y", k[4].V[0])}},
		{Rev: 5, L: []api.Item{item("a", k[0].V[1])}},
		{Rev: 6, L: []api.Item{item("b", k[1].V[1])}},
		{Rev: 7, L: []api.Item{item("c/x", k[3].V[1]), item("c/y", k[4].V[1])}},
		{Rev: 9, L: []api.Item{item("c/x", k[3].V[2])}},
		{Rev: 10, L: []api.Item{item("d", k[5].V[0])}},
		{Rev: 12, L: []api.Item{item("~", k[6].V[0])}},
	}
}

// from are the news of the revisions since to to.
func from(since, to int64) []api.Batch {
	return slices.DeleteFunc(news(), func(b api.Batch) bool { return b.Rev < since || b.Rev > to })
}

// sameBatches tells whether both are alike.
func sameBatches(a, b []api.Batch) bool {
	return slices.EqualFunc(a, b, func(x, y api.Batch) bool { return x.Rev == y.Rev && slices.Equal(x.L, y.L) })
}

// are holds what Changes answered.
func are(t *testing.T, what string, got, want []api.Batch) {
	t.Helper()
	if !sameBatches(got, want) {
		t.Errorf("%s: %s, want %s", what, text(got), text(want))
	}
}

// P15.2: Changes tells each revision from since to to, both with it, at revisions, between and beyond them; none if since is above to.
func TestChanges(t *testing.T) {
	x := laid(t, town()...)
	edges := []int64{math.MinInt64, -1, 0, 1, 2, 3, 4, 5, 6, 7, 8, 9, 10, 11, 12, 13, 20, 120, top, top + 1, math.MaxInt64}
	for _, since := range edges {
		for _, to := range edges {
			are(t, fmt.Sprintf("Changes of %d to %d", since, to), x.Changes("!", "\x7f", since, to, 1000), from(since, to))
		}
	}
	are(t, "Changes of all", x.Changes("!", "\x7f", 1, 12, 12), news())
	are(t, "Changes of 8", x.Changes("!", "\x7f", 8, 8, 12), nil)
	are(t, "Changes of 4", x.Changes("!", "\x7f", 4, 4, 12), news()[2:3])
	are(t, "Changes of 9 to 8", x.Changes("!", "\x7f", 9, 8, 12), nil)
}

// P15.2: Changes tells of the keys in the range alone; a revision that changed others, too, is told without them.
func TestChangesOfRanges(t *testing.T) {
	x := laid(t, town()...)
	for _, r := range [][2]string{{"a", ""}, {"a", "c"}, {"b", ""}, {"c", ""}, {"c", "d"}, {"c", "c/y"}, {"c/", "c0"}, {"c/", ""}, {"c/x", ""}, {"c/y", "\x7f"}, {"d", "~"}, {"e", "~"}, {"!", "a"}, {"~", "\x7f"}, {"~!", "\x7f"}} {
		want := []api.Batch{}
		for _, b := range news() {
			b.L = slices.DeleteFunc(b.L, func(i api.Item) bool { return !modelIn(r[0], r[1], i.Key) })
			if len(b.L) > 0 {
				want = append(want, b)
			}
		}
		are(t, "Changes of "+r[0]+", "+r[1], x.Changes(r[0], r[1], 0, 99, 1000), want)
	}
	for _, r := range noRanges() {
		for _, most := range mosts() {
			are(t, "Changes of no range", x.Changes(r[0], r[1], 0, 99, most), nil)
		}
	}
}

// P15.2: the first batches that have most versions at most, all in all, and none in part; but one, where there is one.
func TestChangesAtMost(t *testing.T) {
	x := laid(t, town()...)
	// So many batches have so many versions: 1, 2, 5, 6, 7, 9, 10, 11, 12.
	for most, n := range map[int]int{
		math.MinInt: 1, -1: 1, 0: 1, 1: 1, 2: 2, 3: 2, 4: 2, 5: 3, 6: 4, 7: 5, 8: 5, 9: 6, 10: 7, 11: 8, 12: 9, 13: 9, 1000: 9, math.MaxInt: 9,
	} {
		are(t, fmt.Sprintf("Changes, %d at most", most), x.Changes("!", "\x7f", 0, 99, most), news()[:n])
	}
	// From 4 on: 3, 4, 5, 7, 8, 9, 10.
	for most, n := range map[int]int{
		math.MinInt: 1, -1: 1, 0: 1, 1: 1, 2: 1, 3: 1, 4: 2, 5: 3, 6: 3, 7: 4, 8: 5, 9: 6, 10: 7, 11: 7, math.MaxInt: 7,
	} {
		are(t, fmt.Sprintf("Changes from 4, %d at most", most), x.Changes("!", "\x7f", 4, 99, most), news()[2:2+n])
	}
	// One that is too many ends it: a smaller one behind it isn't told.
	are(t, "Changes from 3, 3 at most", x.Changes("!", "\x7f", 3, 99, 3), news()[1:2])
	for _, most := range mosts() {
		are(t, "Changes of none", x.Changes("!", "\x7f", 13, 99, most), nil)
		are(t, "Changes of one that is Gone", x.Changes("b", "", 4, 99, most), news()[4:5])
	}
}

// P15.2: of one revision the keys rise, in whatever order they came, also where many changed.
func TestChangesOfOneRevision(t *testing.T) {
	var x index.Index
	want := []api.Batch{{Rev: 5}, {Rev: 6}}
	for n := range int64(200) {
		name := fmt.Sprintf("k%03d", n)
		want[0].L = append(want[0].L, item(name, there(5, 5, 5, 1, "v", n)))
		want[1].L = append(want[1].L, item(name, gone(6, 6)))
		at := n * 77 % 200
		y, e := x.Put(fmt.Sprintf("k%03d", at), 5, 5, "v", at)
		if e != api.OK {
			t.Fatalf("Put: %v", e)
		}
		x = y
	}
	x, n, e := x.Del("k", "l", 6, 6)
	if n != 200 || e != api.OK {
		t.Fatalf("Del: %d, %v", n, e)
	}
	are(t, "Changes", x.Changes("k", "l", 1, 9, 400), want)
	are(t, "Changes, one less", x.Changes("k", "l", 1, 9, 399), want[:1])
	are(t, "Changes, one at most", x.Changes("k", "l", 1, 9, 1), want[:1])
	are(t, "Changes, none at most", x.Changes("k", "l", 6, 9, 0), want[1:])
}

// P15.2: from batch to batch Changes tells all, each once, whatever the most is.
func TestChangesBatchByBatch(t *testing.T) {
	x := laid(t, town()...)
	for _, most := range mosts() {
		told, since := []api.Batch{}, int64(1)
		for range 20 {
			l := x.Changes("!", "\x7f", since, 12, most)
			if len(l) == 0 {
				break
			}
			told = append(told, l...)
			since = l[len(l)-1].Rev + 1
		}
		are(t, fmt.Sprintf("Changes by %d", most), told, news())
	}
}

// made is what batches have made of none, in order: later ones stand in the place of those ahead, and what is Gone goes.
func made(batches []api.Batch) []api.Item {
	now := map[string]api.Ver{}
	for _, b := range batches {
		for _, i := range b.L {
			if i.V.Gone {
				delete(now, i.Key)
			} else {
				now[i.Key] = i.V
			}
		}
	}
	l := []api.Item{}
	for _, k := range sorted(now) {
		l = append(l, item(k, now[k]))
	}
	return l
}

// follows holds P15.3 of an Index, for these ranges, at all revisions from 0 to last.
func follows(t *testing.T, x index.Index, last int64, ranges [][2]string) {
	t.Helper()
	for _, r := range ranges {
		for rev := range last + 1 {
			want := made(x.Changes(r[0], r[1], math.MinInt64, rev, math.MaxInt))
			got, n := x.At(r[0], r[1], rev, math.MaxInt)
			if !slices.Equal(got, want) || n != int64(len(want)) {
				t.Fatalf("%s: At of %q, %q, %d: %s, %d, but its changes come to %s", text(x.All()), r[0], r[1], rev, text(got), n, text(want))
			}
		}
	}
}

// P15.3: of town, as it is and however it is trimmed, changes up to a revision make what is live there.
func TestWhatFollowsOfTown(t *testing.T) {
	ranges := [][2]string{{"!", "\x7f"}, {"a", ""}, {"b", ""}, {"b", "c/y"}, {"c", "d"}, {"c/", "c0"}, {"c/x", "\x7f"}, {"b", "a"}, {"", ""}}
	x := laid(t, town()...)
	follows(t, x, 14, ranges)
	for floor := range int64(14) {
		y := x.Trim(floor)
		follows(t, y, 14, ranges)
		// Behind a Trim what is at the floor, or above it, is as it was.
		for _, r := range ranges {
			for rev := floor; rev < 15; rev++ {
				want, _ := x.At(r[0], r[1], rev, 99)
				heldAt(t, y, r[0], r[1], rev, want...)
			}
		}
	}
	follows(t, x.Drop("c", "d"), 14, ranges)
}
