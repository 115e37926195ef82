package hist_test

import (
	"math"
	"slices"
	"strings"
	"testing"

	"decamp/api"
	"decamp/hist"
)

// comes holds what a call that adds answered: h with v behind it.
func comes(t *testing.T, what string, got []api.Ver, e api.Errno, h []api.Ver, v api.Ver) {
	t.Helper()
	if want := append(slices.Clone(h), v); e != api.OK || !slices.Equal(got, want) {
		t.Errorf("%s: %v, %s, want %s", what, e, text(got), text(want))
	}
}

// fails holds that a call that adds answered this error, and nothing beside it.
func fails(t *testing.T, what string, got []api.Ver, e, want api.Errno) {
	t.Helper()
	if e != want || len(got) != 0 {
		t.Errorf("%s: %v, %s, want %v", what, e, text(got), want)
	}
}

// P14.1: Add answers the history with the version behind it, whatever it is, if that is a history.
func TestAdd(t *testing.T) {
	for _, h := range [][]api.Ver{nil, {}, life()[:1], life()[:3], life(), ended(), {gone(1, 1)}} {
		for _, v := range []api.Ver{
			there(21, 201, 201, 1, "v", 3),
			there(21, 1, 300, 77, "", -3),
			there(top, top, top, top, strings.Repeat("v", 40), top),
			gone(21, 201),
			gone(top, top),
		} {
			got, e := hist.Add(h, v)
			comes(t, "Add", got, e, h, v)
		}
	}
}

// P14.1: of what isn't a history, Add answers ErrArg, also of a version that is right, and stands behind the last one.
func TestAddToWhatIsNoHistory(t *testing.T) {
	for what, h := range wrong() {
		for _, v := range []api.Ver{there(top, top, top, 1, "v", 0), gone(top, top), there(9, 9, 9, 1, "", 0), {}} {
			got, e := hist.Add(h, v)
			fails(t, "Add to "+what, got, e, api.ErrArg)
		}
	}
}

// P14.1: a version that isn't right isn't added to any history.
func TestAddWhatIsNotRight(t *testing.T) {
	whole := there(30, 25, 300, 2, "v", 5)
	for what, v := range map[string]api.Ver{
		"a zero one":              {},
		"a Rev of 0":              {Mod: 300, Make: 25, Version: 2},
		"a Rev above MaxRev":      with([]api.Ver{whole}, 0, func(v *api.Ver) { v.Rev = top + 1 })[0],
		"a Mod of 0":              with([]api.Ver{whole}, 0, func(v *api.Ver) { v.Mod = 0 })[0],
		"a Mod above MaxRev":      with([]api.Ver{whole}, 0, func(v *api.Ver) { v.Mod = top + 1 })[0],
		"a Make of 0":             with([]api.Ver{whole}, 0, func(v *api.Ver) { v.Make = 0 })[0],
		"a Make above its Mod":    with([]api.Ver{whole}, 0, func(v *api.Ver) { v.Make = 301 })[0],
		"a Version of 0":          with([]api.Ver{whole}, 0, func(v *api.Ver) { v.Version = 0 })[0],
		"a Version above MaxRev":  with([]api.Ver{whole}, 0, func(v *api.Ver) { v.Version = top + 1 })[0],
		"too long a Value":        with([]api.Ver{whole}, 0, func(v *api.Ver) { v.Value = strings.Repeat("v", 41) })[0],
		"a Lease beyond":          with([]api.Ver{whole}, 0, func(v *api.Ver) { v.Lease = top + 1 })[0],
		"a Lease beyond below":    with([]api.Ver{whole}, 0, func(v *api.Ver) { v.Lease = -top - 1 })[0],
		"one Gone with all":       with([]api.Ver{whole}, 0, func(v *api.Ver) { v.Gone = true })[0],
		"one Gone with a Make":    {Rev: 30, Mod: 300, Gone: true, Make: 300},
		"one Gone with a Version": {Rev: 30, Mod: 300, Gone: true, Version: 1},
		"one Gone with a Value":   {Rev: 30, Mod: 300, Gone: true, Value: "v"},
		"one Gone with a Lease":   {Rev: 30, Mod: 300, Gone: true, Lease: 5},
		"one Gone of Rev 0":       gone(0, 300),
		"one Gone of Mod 0":       gone(30, 0),
		"one Gone beyond":         gone(top+1, top+1),
	} {
		for _, h := range [][]api.Ver{nil, life(), ended()} {
			got, e := hist.Add(h, v)
			fails(t, "Add of "+what, got, e, api.ErrArg)
		}
	}
}

// P14.1: Rev and Mod of what is added are both above the last one's.
func TestAddOfWhatDoesNotRise(t *testing.T) {
	for _, h := range [][]api.Ver{life(), ended()} {
		end := h[len(h)-1]
		for _, rev := range []int64{1, 12, end.Rev - 1, end.Rev, end.Rev + 1, top} {
			for _, mod := range []int64{1, 120, end.Mod - 1, end.Mod, end.Mod + 1, top} {
				for _, v := range []api.Ver{there(rev, 1, mod, 5, "v", 0), gone(rev, mod)} {
					got, e := hist.Add(h, v)
					if rev > end.Rev && mod > end.Mod {
						comes(t, "Add", got, e, h, v)
					} else {
						fails(t, "Add of "+text([]api.Ver{v}), got, e, api.ErrArg)
					}
				}
			}
		}
	}
	full := []api.Ver{there(top, 1, 5, 1, "", 0)}
	got, e := hist.Add(full, there(top, 1, 6, 1, "", 0))
	fails(t, "Add behind MaxRev", got, e, api.ErrArg)
	got, e = hist.Add(full, there(top+1, 1, 6, 1, "", 0))
	fails(t, "Add beyond MaxRev", got, e, api.ErrArg)
}

// P14.1: the chapter's example.
func TestPutTwice(t *testing.T) {
	h, e := hist.Put(nil, 5, 5, "a", 0)
	comes(t, "Put at 5", h, e, nil, there(5, 5, 5, 1, "a", 0))
	got, e := hist.Put(h, 7, 7, "b", 1)
	comes(t, "Put at 7", got, e, h, there(7, 5, 7, 2, "b", 1))
	if v, ok := hist.At(got, 6); !ok || v.Version != 1 {
		t.Errorf("At 6: %v, %v", v, ok)
	}
}

// P14.1: a Put to no versions, or behind one that is Gone, is of Make mod and Version 1.
func TestPutAnew(t *testing.T) {
	for _, h := range [][]api.Ver{nil, {}, ended(), life()[:3], {gone(1, 1)}, {there(1, 1, 1, top, "", 0), gone(2, 2)}} {
		got, e := hist.Put(h, 30, 300, "v", -5)
		comes(t, "Put", got, e, h, there(30, 300, 300, 1, "v", -5))
	}
}

// P14.1: a Put behind one that is there has its Make, its Version and 1, and nothing else of it.
func TestPutOn(t *testing.T) {
	for _, h := range [][]api.Ver{life(), life()[:1], life()[:2], life()[:4], {there(1, 1, 9, 41, "w", 8)}, {there(1, 9, 9, top-1, "w", 8)}} {
		end := h[len(h)-1]
		got, e := hist.Put(h, 30, 300, "v", 5)
		comes(t, "Put", got, e, h, there(30, end.Make, 300, end.Version+1, "v", 5))
		got, e = hist.Put(h, end.Rev+1, end.Mod+1, "", 0)
		comes(t, "Put", got, e, h, there(end.Rev+1, end.Make, end.Mod+1, end.Version+1, "", 0))
	}
}

// P14.1: behind a Version of MaxRev there is no other one till the key was Gone.
func TestPutBehindTheGreatestVersion(t *testing.T) {
	h := []api.Ver{there(1, 1, 1, top, "", 0)}
	got, e := hist.Put(h, 2, 2, "v", 0)
	fails(t, "Put behind Version MaxRev", got, e, api.ErrArg)
	h, e = hist.Del(h, 2, 2)
	comes(t, "Del", h, e, []api.Ver{there(1, 1, 1, top, "", 0)}, gone(2, 2))
	got, e = hist.Put(h, 3, 3, "v", 0)
	comes(t, "Put", got, e, h, there(3, 3, 3, 1, "v", 0))
}

// P14.1: each argument of a Put, at its edges and beyond, to no versions, behind one that is there and behind one that is Gone.
func TestPutArguments(t *testing.T) {
	for _, h := range [][]api.Ver{nil, {there(2, 2, 2, 1, "", 0)}, {gone(2, 2)}} {
		least := int64(2)
		want := api.Ver{Version: 1}
		switch {
		case len(h) == 0:
			least = 0
		case !h[0].Gone:
			want = api.Ver{Make: 2, Version: 2}
		}
		held := func(rev, mod int64, value string, lease int64, ok bool) {
			t.Helper()
			got, e := hist.Put(h, rev, mod, value, lease)
			if !ok || rev <= least || mod <= least {
				fails(t, "Put", got, e, api.ErrArg)
				return
			}
			v := there(rev, want.Make, mod, want.Version, value, lease)
			if want.Make == 0 {
				v.Make = mod
			}
			comes(t, "Put", got, e, h, v)
		}
		for _, rev := range append(numbers(), number{3, true}) {
			for _, mod := range append(numbers(), number{3, true}) {
				held(rev.v, mod.v, "v", 1, rev.ok && mod.ok)
			}
		}
		for _, lease := range leases() {
			for value, ok := range values() {
				held(7, 8, value, lease.v, lease.ok && ok)
			}
		}
	}
}

// P14.1: a Put to what isn't a history is ErrArg, also where what is wrong stands ahead of the last one.
func TestPutToWhatIsNoHistory(t *testing.T) {
	for what, h := range wrong() {
		for _, at := range []int64{1, 14, top - 1, top, top + 1, 0, math.MaxInt64} {
			got, e := hist.Put(h, at, at, "v", 0)
			fails(t, "Put to "+what, got, e, api.ErrArg)
		}
	}
}

// P14.1: a Del of what is there has one behind it that is Gone, and nothing else.
func TestDel(t *testing.T) {
	for _, h := range [][]api.Ver{life(), life()[:1], life()[:2], life()[:4], {there(1, 1, 1, top, strings.Repeat("v", 40), -top)}} {
		got, e := hist.Del(h, 30, 300)
		comes(t, "Del", got, e, h, gone(30, 300))
		end := h[len(h)-1]
		got, e = hist.Del(h, end.Rev+1, end.Mod+1)
		comes(t, "Del", got, e, h, gone(end.Rev+1, end.Mod+1))
		got, e = hist.Del(h, top, top)
		comes(t, "Del", got, e, h, gone(top, top))
	}
}

// P14.1: a Del of none, and of what is Gone, is ErrNone, if one that is Gone could stand there.
func TestDelOfNone(t *testing.T) {
	for _, h := range [][]api.Ver{nil, {}, ended(), life()[:3], {gone(1, 1)}} {
		for _, at := range []int64{201, 202, top - 1, top} {
			got, e := hist.Del(h, at, at)
			fails(t, "Del", got, e, api.ErrNone)
		}
	}
}

// P14.1: rev and mod of a Del are 1 to MaxRev and above the last one's, else it is ErrArg, of none and of what is Gone, too.
func TestDelArguments(t *testing.T) {
	for _, h := range [][]api.Ver{nil, {there(2, 1, 4, 1, "v", 1)}, {gone(2, 4)}, {there(1, 1, 1, 1, "", 0), gone(2, 4)}} {
		var end api.Ver
		if len(h) > 0 {
			end = h[len(h)-1]
		}
		around := []number{{3, true}, {4, true}, {5, true}}
		for _, rev := range append(numbers(), around...) {
			for _, mod := range append(numbers(), around...) {
				got, e := hist.Del(h, rev.v, mod.v)
				switch {
				case !rev.ok || !mod.ok || rev.v <= end.Rev || mod.v <= end.Mod:
					fails(t, "Del", got, e, api.ErrArg)
				case len(h) == 0 || end.Gone:
					fails(t, "Del", got, e, api.ErrNone)
				default:
					comes(t, "Del", got, e, h, gone(rev.v, mod.v))
				}
			}
		}
	}
}

// P14.1: a Del of what isn't a history is ErrArg, whether its last one is Gone or not.
func TestDelOfWhatIsNoHistory(t *testing.T) {
	for what, h := range wrong() {
		for _, at := range []int64{1, 14, 300, top - 1, top, top + 1, 0, math.MaxInt64} {
			got, e := hist.Del(h, at, at)
			fails(t, "Del of "+what, got, e, api.ErrArg)
		}
	}
}
