package hist_test

import (
	"fmt"
	"math"
	"slices"
	"strings"
	"testing"

	"decamp/api"
	"decamp/hist"
)

// top is the greatest number of a version.
const top = 1 << 40

// there is a version that isn't Gone.
func there(rev, made, mod, version int64, value string, lease int64) api.Ver {
	return api.Ver{Rev: rev, Make: made, Mod: mod, Version: version, Value: value, Lease: lease}
}

// gone is a version that is.
func gone(rev, mod int64) api.Ver { return api.Ver{Rev: rev, Mod: mod, Gone: true} }

// life is a history as keys have them: at 3 put, at 5 put, at 8 gone, at 12 put again, at 13 put; Mods are others than Revs.
func life() []api.Ver {
	return []api.Ver{
		there(3, 30, 30, 1, "a", 0),
		there(5, 30, 50, 2, "b", 7),
		gone(8, 80),
		there(12, 120, 120, 1, "c", -7),
		there(13, 120, 130, 2, "", 0),
	}
}

// ended is life, Gone at 20.
func ended() []api.Ver { return append(life(), gone(20, 200)) }

// with is one version of l changed.
func with(l []api.Ver, n int, change func(v *api.Ver)) []api.Ver {
	c := slices.Clone(l)
	change(&c[n])
	return c
}

// wrong are lists that aren't histories, by what is wrong.
func wrong() map[string][]api.Ver {
	return map[string][]api.Ver{
		"a zero one":               {{}},
		"zero ones":                {{}, {}},
		"a Rev of 0":               with(life(), 0, func(v *api.Ver) { v.Rev = 0 }),
		"a Rev below 0":            with(life(), 0, func(v *api.Ver) { v.Rev = math.MinInt64 }),
		"a Rev above MaxRev":       with(life(), 4, func(v *api.Ver) { v.Rev = top + 1 }),
		"a Rev that stays":         with(life(), 2, func(v *api.Ver) { v.Rev = 5 }),
		"a Rev that falls":         with(life(), 3, func(v *api.Ver) { v.Rev = 7 }),
		"a last Rev that stays":    with(life(), 4, func(v *api.Ver) { v.Rev = 12 }),
		"a Mod of 0":               with(ended(), 5, func(v *api.Ver) { v.Mod = 0 }),
		"a Mod above MaxRev":       with(life(), 4, func(v *api.Ver) { v.Mod = top + 1 }),
		"a Mod that stays":         with(life(), 2, func(v *api.Ver) { v.Mod = 50 }),
		"a Mod that falls":         with(life(), 4, func(v *api.Ver) { v.Make, v.Mod = 1, 119 }),
		"a Make of 0":              with(life(), 1, func(v *api.Ver) { v.Make = 0 }),
		"a Make above its Mod":     with(life(), 4, func(v *api.Ver) { v.Make = 131 }),
		"a Version of 0":           with(life(), 0, func(v *api.Ver) { v.Version = 0 }),
		"a Version above MaxRev":   with(life(), 4, func(v *api.Ver) { v.Version = top + 1 }),
		"the greatest Version":     with(life(), 4, func(v *api.Ver) { v.Version = math.MaxInt64 }),
		"too long a Value":         with(life(), 1, func(v *api.Ver) { v.Value = strings.Repeat("v", 41) }),
		"a Lease beyond":           with(life(), 3, func(v *api.Ver) { v.Lease = top + 1 }),
		"a Lease beyond below":     with(life(), 3, func(v *api.Ver) { v.Lease = -top - 1 }),
		"one Gone with a Make":     with(ended(), 5, func(v *api.Ver) { v.Make = 1 }),
		"one Gone with a Version":  with(ended(), 5, func(v *api.Ver) { v.Version = 1 }),
		"one Gone with a Value":    with(ended(), 2, func(v *api.Ver) { v.Value = "v" }),
		"one Gone with a Lease":    with(ended(), 2, func(v *api.Ver) { v.Lease = 1 }),
		"one there twice":          append(life(), life()[4]),
		"one Gone twice":           append(ended(), gone(20, 200)),
		"one that falls at an end": append(life(), there(1, 1, 1, 1, "", 0)),
	}
}

// number is one at an edge, and whether it may be there.
type number struct {
	v  int64
	ok bool
}

// numbers are what a Rev, a Mod and a Version are asked with.
func numbers() []number {
	return []number{
		{math.MinInt64, false},
		{-top - 1, false},
		{-top, false},
		{-1, false},
		{0, false},
		{1, true},
		{2, true},
		{1 << 32, true},
		{top - 1, true},
		{top, true},
		{top + 1, false},
		{1 << 41, false},
		{math.MaxInt64, false},
	}
}

// leases are what a Lease is asked with.
func leases() []number {
	return []number{
		{math.MinInt64, false},
		{-1 << 41, false},
		{-top - 1, false},
		{-top, true},
		{-top + 1, true},
		{-1 << 32, true},
		{-1, true},
		{0, true},
		{1, true},
		{1 << 32, true},
		{top - 1, true},
		{top, true},
		{top + 1, false},
		{1 << 41, false},
		{math.MaxInt64, false},
	}
}

// values are what a Value is asked with, by whether it may be there. Its bytes count, whatever they are.
func values() map[string]bool {
	return map[string]bool{
		"":                                 true,
		"v":                                true,
		"\x00":                             true,
		"\xff\xfe":                         true,
		strings.Repeat("v", 39):            true,
		strings.Repeat("v", 40):            true,
		strings.Repeat("\xff", 40):         true,
		strings.Repeat("\x00", 40):         true,
		strings.Repeat("\u00e4", 20):       true,
		strings.Repeat("\u00e4", 20) + "v": false,
		strings.Repeat("\u00e4", 40):       false,
		strings.Repeat("v", 41):            false,
		strings.Repeat("\x00", 41):         false,
		strings.Repeat("v", 80):            false,
		strings.Repeat("v", 1<<16):         false,
	}
}

// rightOf holds Right of one list.
func rightOf(t *testing.T, h []api.Ver, want bool, what string, more ...any) {
	t.Helper()
	if got := hist.Right(h); got != want {
		t.Errorf("Right of "+what+": %v", append(more, got)...)
	}
}

// P14.1: no versions are a history, nil or not.
func TestRightOfNone(t *testing.T) {
	rightOf(t, nil, true, "nil")
	rightOf(t, []api.Ver{}, true, "none")
	rightOf(t, life()[:0], true, "none, with room")
}

// P14.1: of one that is there, Rev, Mod and Version are 1 to MaxRev, and Make is 1 to Mod.
func TestRightNumbers(t *testing.T) {
	for _, rev := range numbers() {
		for _, mod := range numbers() {
			for _, version := range numbers() {
				for _, made := range append(numbers(), number{mod.v - 1, mod.v > 1}, number{mod.v, true}, number{mod.v + 1, false}) {
					want := rev.ok && mod.ok && version.ok && made.v >= 1 && made.v <= mod.v
					rightOf(t, []api.Ver{there(rev.v, made.v, mod.v, version.v, "v", 1)}, want, "Rev %d, Make %d, Mod %d, Version %d", rev.v, made.v, mod.v, version.v)
				}
			}
		}
	}
}

// P14.1: each number of a version, at its least and its greatest one, and one beyond, where all the others are as they may be.
func TestRightNumbersOneByOne(t *testing.T) {
	whole := there(5, 4, 6, 3, "v", 2)
	for _, c := range []struct {
		name   string
		change func(v *api.Ver, n int64)
		least  int64
		most   int64
	}{
		{"Rev", func(v *api.Ver, n int64) { v.Rev = n }, 1, 1099511627776},
		{"Mod", func(v *api.Ver, n int64) { v.Mod = n }, 4, 1099511627776},
		{"Make", func(v *api.Ver, n int64) { v.Make = n }, 1, 6},
		{"Version", func(v *api.Ver, n int64) { v.Version = n }, 1, 1099511627776},
		{"Lease", func(v *api.Ver, n int64) { v.Lease = n }, -1099511627776, 1099511627776},
	} {
		for n, want := range map[int64]bool{
			math.MinInt64: false, c.least - 1: false, c.least: true, c.least + 1: true,
			c.most - 1: true, c.most: true, c.most + 1: false, math.MaxInt64: false,
		} {
			v := whole
			c.change(&v, n)
			rightOf(t, []api.Ver{v}, want, "a %s of %d", c.name, n)
			rises := n < top || c.name != "Rev" && c.name != "Mod"
			rightOf(t, []api.Ver{v, there(top, 1, top, 1, "", 0)}, want && rises, "a %s of %d ahead of another one", c.name, n)
		}
	}
}

// P14.1: a Lease is 0 - MaxRev to MaxRev, a Value has at most MaxValue bytes.
func TestRightLeaseAndValue(t *testing.T) {
	for _, lease := range leases() {
		for value, ok := range values() {
			rightOf(t, []api.Ver{there(1, 1, 1, 1, value, lease.v)}, lease.ok && ok, "a Lease of %d, a Value of %d bytes", lease.v, len(value))
		}
	}
}

// P14.1: one that is Gone has Rev and Mod alone.
func TestRightGone(t *testing.T) {
	for _, rev := range numbers() {
		for _, mod := range numbers() {
			rightOf(t, []api.Ver{gone(rev.v, mod.v)}, rev.ok && mod.ok, "one Gone at %d, %d", rev.v, mod.v)
		}
	}
	for _, n := range []int64{math.MinInt64, -top, -1, 1, 2, 9, top, math.MaxInt64} {
		for name, v := range map[string]api.Ver{
			"Make":    {Rev: 9, Mod: 9, Gone: true, Make: n},
			"Version": {Rev: 9, Mod: 9, Gone: true, Version: n},
			"Lease":   {Rev: 9, Mod: 9, Gone: true, Lease: n},
		} {
			rightOf(t, []api.Ver{v}, false, "one Gone with a %s of %d", name, n)
			rightOf(t, []api.Ver{there(8, 8, 8, 1, "v", 0), v}, false, "one Gone with a %s of %d behind another one", name, n)
		}
	}
	for value := range values() {
		v := gone(9, 9)
		v.Value = value
		rightOf(t, []api.Ver{v}, value == "", "one Gone with a Value of %d bytes", len(value))
	}
	whole := there(9, 9, 9, 1, "v", 1)
	whole.Gone = true
	rightOf(t, []api.Ver{whole}, false, "one Gone that has all")
}

// P14.1: Revs rise, and so do Mods, each of them alone.
func TestRightRises(t *testing.T) {
	steps := []int64{-top, -2, -1, 0, 1, 2, 1 << 32}
	for _, revStep := range steps {
		for _, modStep := range steps {
			for _, wasGone := range []bool{false, true} {
				for _, isGone := range []bool{false, true} {
					const rev, mod = 1 << 33, 1 << 34
					one, two := there(rev, mod, mod, 1, "v", 0), there(rev+revStep, 1, mod+modStep, 2, "v", 0)
					if wasGone {
						one = gone(one.Rev, one.Mod)
					}
					if isGone {
						two = gone(two.Rev, two.Mod)
					}
					want := revStep > 0 && modStep > 0
					rightOf(t, []api.Ver{one, two}, want, "%v, %v", one, two)
					rightOf(t, []api.Ver{gone(1, 1), one, two, gone(top, top)}, want, "%v, %v among others", one, two)
				}
			}
		}
	}
}

// P14.1: of many versions each is held against the one ahead, not against the first one, and each is asked whether it is right.
func TestRightOfMany(t *testing.T) {
	for n := range life() {
		rightOf(t, life()[:n], true, "the first %d", n)
		rightOf(t, life()[n:], true, "all from %d on", n)
	}
	rightOf(t, ended(), true, "all")
	for what, h := range wrong() {
		rightOf(t, h, false, what)
	}
	long := []api.Ver{}
	for n := range int64(1000) {
		long = append(long, there(n+1, 1, 2*n+1, n+1, "v", n))
	}
	rightOf(t, long, true, "a thousand")
	for _, n := range []int{0, 1, 499, 998, 999} {
		rightOf(t, with(long, n, func(v *api.Ver) { v.Version = 0 }), false, "a thousand with one of Version 0 at %d", n)
		rightOf(t, with(long, n, func(v *api.Ver) { v.Rev += 2 }), n == 999, "a thousand with a Rev two higher at %d", n)
		rightOf(t, with(long, n, func(v *api.Ver) { v.Mod += 2 }), n == 999, "a thousand with a Mod two higher at %d", n)
	}
}

// P14.1: no more is asked of a history than its words say: not that it begins with a Make, that Gone ones stand behind ones that are there, or that Makes and Versions go on.
func TestRightOfOddOnes(t *testing.T) {
	for what, h := range map[string][]api.Ver{
		"Gone at first":         {gone(1, 1)},
		"Gone, and Gone":        {gone(1, 1), gone(2, 2), gone(3, 3)},
		"Gone behind there":     {there(1, 1, 1, 1, "", 0), gone(2, 2), gone(3, 3)},
		"a Make that falls":     {there(1, 5, 5, 1, "", 0), there(2, 1, 6, 2, "", 0)},
		"a Version that stays":  {there(1, 5, 5, 2, "", 0), there(2, 5, 6, 2, "", 0)},
		"a Version that falls":  {there(1, 5, 5, top, "", 0), there(2, 5, 6, 1, "", 0)},
		"a Make ahead of Gone":  {gone(1, 5), there(2, 1, 6, 9, "", 0)},
		"a Rev above its Mod":   {there(top, 1, 1, 1, "", 0)},
		"a Mod above its Rev":   {there(1, 1, top, 1, "", 0)},
		"all at their greatest": {there(top, top, top, top, strings.Repeat("v", 40), top)},
	} {
		rightOf(t, h, true, what)
	}
}

// text is a list as a text that tells all of it.
func text(h []api.Ver) string { return fmt.Sprintf("%+v", h) }
