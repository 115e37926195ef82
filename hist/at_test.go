package hist_test

import (
	"math"
	"slices"
	"testing"

	"decamp/api"
	"decamp/hist"
)

// is holds what At or Live answered: this one, or, of a zero one, that there is none.
func is(t *testing.T, what string, got api.Ver, ok bool, want api.Ver) {
	t.Helper()
	if got != want || ok != (want != api.Ver{}) {
		t.Errorf("%s: %+v, %v, want %+v", what, got, ok, want)
	}
}

// are holds what Since or Trim answered.
func are(t *testing.T, what string, got, want []api.Ver) {
	t.Helper()
	if !slices.Equal(got, want) {
		t.Errorf("%s: %s, want %s", what, text(got), text(want))
	}
}

// P14.2: At answers the last one whose Rev isn't above rev, by its Rev, not its Mod; none where that is Gone.
func TestAt(t *testing.T) {
	h := ended()
	none := api.Ver{}
	for rev, want := range map[int64]api.Ver{
		math.MinInt64: none, -1: none, 0: none, 1: none, 2: none,
		3: h[0], 4: h[0],
		5: h[1], 6: h[1], 7: h[1],
		8: none, 9: none, 11: none,
		12: h[3],
		13: h[4], 14: h[4], 19: h[4],
		20: none, 21: none, 30: none, 200: none, top: none, top + 1: none, math.MaxInt64: none,
	} {
		got, ok := hist.At(h, rev)
		is(t, "At of one that ended", got, ok, want)
		if rev >= 20 {
			want = h[4]
		}
		got, ok = hist.At(life(), rev)
		is(t, "At of one that lives", got, ok, want)
	}
}

// P14.2: of no versions At is false; of one alone it is that one from its Rev on, of one Gone alone never.
func TestAtOfFew(t *testing.T) {
	one := there(top, 1, 1, 1, "v", 1)
	for _, rev := range []int64{math.MinInt64, -1, 0, 1, 2, top - 1, top, top + 1, math.MaxInt64} {
		got, ok := hist.At(nil, rev)
		is(t, "At of none", got, ok, api.Ver{})
		got, ok = hist.At([]api.Ver{}, rev)
		is(t, "At of none", got, ok, api.Ver{})
		got, ok = hist.At([]api.Ver{gone(1, 1)}, rev)
		is(t, "At of one Gone", got, ok, api.Ver{})
		want := api.Ver{}
		if rev >= top {
			want = one
		}
		got, ok = hist.At([]api.Ver{one}, rev)
		is(t, "At of one", got, ok, want)
	}
}

// P14.2: Live answers the last one, unless it is Gone.
func TestLive(t *testing.T) {
	got, ok := hist.Live(nil)
	is(t, "Live of none", got, ok, api.Ver{})
	got, ok = hist.Live([]api.Ver{})
	is(t, "Live of none", got, ok, api.Ver{})
	h := ended()
	for n, v := range h {
		if v.Gone {
			v = api.Ver{}
		}
		got, ok := hist.Live(h[:n+1])
		is(t, "Live", got, ok, v)
		got, ok = hist.Live(h[n : n+1])
		is(t, "Live of one alone", got, ok, v)
	}
}

// P14.2: Since answers all whose Rev is from the one to the other, both with it, Gone ones too.
func TestSince(t *testing.T) {
	h := ended()
	edges := []int64{math.MinInt64, -1, 0, 1, 2, 3, 4, 5, 6, 7, 8, 9, 10, 11, 12, 13, 14, 19, 20, 21, 30, 200, top, top + 1, math.MaxInt64}
	for _, from := range edges {
		for _, to := range edges {
			want := []api.Ver{}
			for _, v := range h {
				if from <= v.Rev && v.Rev <= to {
					want = append(want, v)
				}
			}
			are(t, "Since", hist.Since(h, from, to), want)
			are(t, "Since of none", hist.Since(nil, from, to), nil)
			are(t, "Since of none", hist.Since([]api.Ver{}, from, to), nil)
		}
	}
	are(t, "Since 5, 12", hist.Since(h, 5, 12), []api.Ver{there(5, 30, 50, 2, "b", 7), gone(8, 80), there(12, 120, 120, 1, "c", -7)})
	are(t, "Since 6, 7", hist.Since(h, 6, 7), nil)
	are(t, "Since 8, 8", hist.Since(h, 8, 8), []api.Ver{gone(8, 80)})
	are(t, "Since 12, 5", hist.Since(h, 12, 5), nil)
	are(t, "Since 9, 8", hist.Since(h, 9, 8), nil)
	are(t, "Since of all", hist.Since(h, math.MinInt64, math.MaxInt64), h)
	are(t, "Since from above to", hist.Since(h, math.MaxInt64, math.MinInt64), nil)
}

// P14.2: Trim leaves those whose Rev is above the floor, and the last one of the others, if that isn't Gone.
func TestTrim(t *testing.T) {
	h := ended()
	for floor, from := range map[int64]int{
		math.MinInt64: 0, -1: 0, 0: 0, 1: 0, 2: 0,
		3: 0, 4: 0,
		5: 1, 6: 1, 7: 1,
		8: 3, 9: 3, 11: 3,
		12: 3,
		13: 4, 14: 4, 19: 4,
		20: 6, 21: 6, 30: 6, 200: 6, top: 6, top + 1: 6, math.MaxInt64: 6,
	} {
		are(t, "Trim of one that ended", hist.Trim(h, floor), h[from:])
		are(t, "Trim of one that lives", hist.Trim(life(), floor), life()[min(from, 4):])
	}
}

// P14.2: of none, of one alone, and of Gone ones at the beginning, which stay while the floor is below them.
func TestTrimOfFew(t *testing.T) {
	one := []api.Ver{there(5, 1, 1, 1, "v", 1)}
	ghosts := []api.Ver{gone(5, 5), gone(7, 7), there(9, 9, 9, 1, "", 0), gone(11, 11), gone(13, 13)}
	for floor, from := range map[int64]int{math.MinInt64: 0, 0: 0, 4: 0, 5: 1, 6: 1, 7: 2, 8: 2, 9: 2, 10: 2, 11: 4, 12: 4, 13: 5, 14: 5, math.MaxInt64: 5} {
		are(t, "Trim of none", hist.Trim(nil, floor), nil)
		are(t, "Trim of none", hist.Trim([]api.Ver{}, floor), nil)
		are(t, "Trim of one", hist.Trim(one, floor), one)
		are(t, "Trim of Gone ones", hist.Trim(ghosts, floor), ghosts[from:])
	}
}

// P14.1: of what isn't a history all others answer zero, also where what is asked for doesn't touch what is wrong.
func TestOfWhatIsNoHistory(t *testing.T) {
	for what, h := range wrong() {
		got, ok := hist.Live(h)
		is(t, "Live of "+what, got, ok, api.Ver{})
		for _, rev := range []int64{math.MinInt64, 0, 1, 3, 4, 5, 8, 12, 13, 20, top, math.MaxInt64} {
			got, ok := hist.At(h, rev)
			is(t, "At of "+what, got, ok, api.Ver{})
			are(t, "Trim of "+what, hist.Trim(h, rev), nil)
			for _, to := range []int64{3, 8, 20, math.MaxInt64} {
				are(t, "Since of "+what, hist.Since(h, rev, to), nil)
			}
		}
	}
}
