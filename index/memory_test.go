package index_test

import (
	"math"
	"strings"
	"testing"

	"decamp/api"
	"decamp/index"
)

// spoilt is a version as no call answers it.
var spoilt = api.Ver{Rev: -7, Make: -7, Mod: -7, Version: -7, Value: "spoilt", Lease: -7, Gone: true}

// spoil turns all of a list, and of its spare room.
func spoil[T any](l []T, to T) {
	l = l[:cap(l)]
	for i := range l {
		l[i] = to
	}
}

// spoilAll turns all of a list of keys, and of what they were, spare room too.
func spoilAll(l []key) {
	for _, k := range l {
		spoil(k.V, spoilt)
	}
	spoil(l, key{Key: "spoilt"})
}

// spoilBatches turns all of a list of batches, and of what they have, spare room too.
func spoilBatches(l []api.Batch) {
	for _, b := range l {
		spoil(b.L, item("spoilt", spoilt))
	}
	spoil(l, api.Batch{Rev: -7})
}

// tellers are the calls that tell lists: each answers what it told, and spoils that.
func tellers() map[string]func(x index.Index) string {
	items := func(l []api.Item, more any) string {
		told := text(l) + text(more)
		spoil(l, item("spoilt", spoilt))
		return told
	}
	batches := func(l []api.Batch) string {
		told := text(l)
		spoilBatches(l)
		return told
	}
	return map[string]func(x index.Index) string{
		"All": func(x index.Index) string {
			l := x.All()
			told := text(l)
			spoilAll(l)
			return told
		},
		"At": func(x index.Index) string {
			l, n := x.At("!", "\x7f", 12, 99)
			return items(l, n)
		},
		"At of some": func(x index.Index) string {
			l, n := x.At("a", "d", 4, 2)
			return items(l, n)
		},
		"Behind": func(x index.Index) string {
			l, all := x.Behind("", "", 12, 99)
			return items(l, all)
		},
		"Behind of some": func(x index.Index) string {
			l, all := x.Behind("c", "c", 4, 1)
			return items(l, all)
		},
		"Changes":         func(x index.Index) string { return batches(x.Changes("!", "\x7f", 0, 99, 99)) },
		"Changes of some": func(x index.Index) string { return batches(x.Changes("a", "d", 3, 9, 4)) },
		"Changes of one":  func(x index.Index) string { return batches(x.Changes("c", "", 0, 99, 1)) },
		"Leased": func(x index.Index) string {
			l := x.Leased(7)
			told := text(l)
			spoil(l, "spoilt")
			return told
		},
	}
}

// R3: what is told is the caller's own: spoiling it spoils neither the Index nor what it tells another time.
func TestWhatIsToldIsTheCallersOwn(t *testing.T) {
	x := laid(t, town()...)
	y, e := x.Put("a", 20, 200, "more", 7)
	if e != api.OK {
		t.Fatalf("Put: %v", e)
	}
	for what, tell := range tellers() {
		was := tell(x)
		if got := tell(x); got != was {
			t.Errorf("%s: %s, but %s once it was spoilt", what, was, got)
		}
		stands(t, what, x, town())
		stands(t, what, y, with(town(), "a", there(20, 20, 200, 3, "more", 7)))
		if got := tell(laid(t, town()...)); got != was {
			t.Errorf("%s: %s, but of another one %s", what, was, got)
		}
	}
}

// R3: no two lists of one answer share any, spare room too.
func TestListsOfOneAnswerShareNothing(t *testing.T) {
	x := laid(t, town()...)
	for n := range news() {
		l := x.Changes("!", "\x7f", 0, 99, 99)
		spoil(l[n].L, item("spoilt", spoilt))
		for i, b := range l {
			if i != n {
				are(t, "Changes", []api.Batch{b}, news()[i:i+1])
			}
		}
	}
	for n := range town() {
		l := x.All()
		spoil(l[n].V, spoilt)
		for i, k := range l {
			if i != n && text(k) != text(town()[i]) {
				t.Errorf("All: %s, want %s", text(k), text(town()[i]))
			}
		}
	}
}

// branches are all ways of making an Index of another one.
func branches() map[string]func(x index.Index) index.Index {
	return map[string]func(x index.Index) index.Index{
		"Put of what is there": func(x index.Index) index.Index { y, _ := x.Put("a", 30, 300, "one", 1); return y },
		"Put of what is Gone":  func(x index.Index) index.Index { y, _ := x.Put("b", 31, 310, "two", 2); return y },
		"Put of what is new":   func(x index.Index) index.Index { y, _ := x.Put("e", 32, 320, "three", 3); return y },
		"Put that fails":       func(x index.Index) index.Index { y, _ := x.Put("a", 1, 1, "four", 4); return y },
		"Add":                  func(x index.Index) index.Index { y, _ := x.Add("a", there(33, 3, 330, 3, "five", 5)); return y },
		"Add of one Gone":      func(x index.Index) index.Index { y, _ := x.Add("a", gone(34, 340)); return y },
		"Add that fails":       func(x index.Index) index.Index { y, _ := x.Add("a", api.Ver{}); return y },
		"Del of one":           func(x index.Index) index.Index { y, _, _ := x.Del("a", "", 35, 350); return y },
		"Del of all":           func(x index.Index) index.Index { y, _, _ := x.Del("!", "\x7f", 36, 360); return y },
		"Del that fails":       func(x index.Index) index.Index { y, _, _ := x.Del("!", "\x7f", 11, 110); return y },
		"Drop of one":          func(x index.Index) index.Index { return x.Drop("c", "") },
		"Drop of all":          func(x index.Index) index.Index { return x.Drop("!", "\x7f") },
		"Drop of none":         func(x index.Index) index.Index { return x.Drop("e", "f") },
		"Trim of some":         func(x index.Index) index.Index { return x.Trim(6) },
		"Trim of all":          func(x index.Index) index.Index { return x.Trim(top) },
		"Trim of none":         func(x index.Index) index.Index { return x.Trim(0) },
	}
}

// P15.1, R3: an Index stays as it was whatever is made of it, and so do all that are made of it, whatever is made of the others.
func TestAnIndexStaysAsItWas(t *testing.T) {
	x := laid(t, town()...)
	for one, first := range branches() {
		y := first(x)
		was := text(y.All())
		for two, second := range branches() {
			z := second(x)
			wasZ := text(z.All())
			for _, third := range branches() {
				third(y)
				third(z)
			}
			if text(y.All()) != was || text(z.All()) != wasZ {
				t.Fatalf("%s, and %s: %s was %s; %s was %s", one, two, text(y.All()), was, text(z.All()), wasZ)
			}
		}
		stands(t, one, x, town())
	}
}

// R1, R2: each call ends, and none panics, of whatever texts and numbers, and answers the same once more.
func TestNothingPanics(t *testing.T) {
	texts := append(noKeys(), "!", "a", "c/x", "~", "\x7f", strings.Repeat("k", 32))
	ints := []int64{math.MinInt64, -top - 1, -1, 0, 1, 12, top, top + 1, math.MaxInt64}
	for _, x := range []index.Index{{}, laid(t, town()...)} {
		was := text(x.All())
		for _, a := range texts {
			x.Live(a)
			for _, n := range ints {
				x.Add(a, api.Ver{Rev: n, Make: n, Mod: n, Version: n, Value: a, Lease: n})
				x.Put(a, n, n, a, n)
			}
			for _, b := range texts {
				x.Drop(a, b)
				for _, n := range ints {
					x.Del(a, b, n, n)
					x.At(a, b, n, int(n))
					x.Behind(a, b, n, int(n))
					x.Changes(a, b, -n, n, int(n))
				}
			}
		}
		for _, n := range ints {
			x.Trim(n)
			x.Leased(n)
		}
		if text(x.All()) != was {
			t.Errorf("%s was %s", text(x.All()), was)
		}
	}
	for _, tell := range tellers() {
		if tell(laid(t, town()...)) != tell(laid(t, town()...)) {
			t.Error("another answer of the same")
		}
	}
}
