package index_test

import (
	"strings"
	"testing"

	"decamp/api"
	"decamp/index"
)

// P15.1: a Put of a key that is new, also between others and at both ends, is its first version.
func TestPutOfANewKey(t *testing.T) {
	x := laid(t, town()...)
	for _, k := range []string{"!", "A", "a!", "aa", "c!", "c/", "c/xx", "c/z", "e", "}", "~~", strings.Repeat("k", 32), strings.Repeat("~", 32)} {
		// Its Rev and Mod are above those of no other key, and needn't be.
		y, e := x.Put(k, 1, 3, "new", -7)
		comes(t, "Put of "+k, y, e, with(town(), k, there(1, 3, 3, 1, "new", -7)))
	}
	stands(t, "what it was made of", x, town())
}

// P15.1: a Put of a key that is there goes on from what is there.
func TestPutOfAKeyThatIsThere(t *testing.T) {
	x := laid(t, town()...)
	y, e := x.Put("a", 6, 51, "new", 3)
	comes(t, "Put of a", y, e, with(town(), "a", there(6, 20, 51, 3, "new", 3)))
	y, e = x.Put("c/x", 13, 130, "", 0)
	comes(t, "Put of c/x", y, e, with(town(), "c/x", there(13, 90, 130, 2, "", 0)))
	y, e = x.Put("~", top, top, strings.Repeat("v", 40), top)
	comes(t, "Put of ~", y, e, with(town(), "~", there(top, 120, top, 2, strings.Repeat("v", 40), top)))
	stands(t, "what it was made of", x, town())
}

// P15.1: a Put of a key that is Gone begins anew, behind all that it was.
func TestPutOfAKeyThatIsGone(t *testing.T) {
	x := laid(t, town()...)
	y, e := x.Put("b", 7, 61, "new", 3)
	comes(t, "Put of b", y, e, with(town(), "b", there(7, 61, 61, 1, "new", 3)))
	y, e = x.Put("c/y", 8, 71, "new", 3)
	comes(t, "Put of c/y", y, e, with(town(), "c/y", there(8, 71, 71, 1, "new", 3)))
	stands(t, "what it was made of", x, town())
}

// P15.1: a Put and an Add of what is no key are ErrArg, whatever else is asked.
func TestPutOfNoKey(t *testing.T) {
	for _, x := range []index.Index{{}, laid(t, town()...)} {
		for _, k := range noKeys() {
			y, e := x.Put(k, 20, 200, "v", 1)
			fails(t, "Put of no key", y, e, api.ErrArg)
			y, e = x.Put(k, 0, 0, strings.Repeat("v", 41), top+1)
			fails(t, "Put of no key", y, e, api.ErrArg)
			y, e = x.Add(k, there(20, 200, 200, 1, "v", 1))
			fails(t, "Add of no key", y, e, api.ErrArg)
			y, e = x.Add(k, gone(20, 200))
			fails(t, "Add of no key", y, e, api.ErrArg)
		}
	}
}

// P15.1: each argument of a Put at its edges and beyond, of a key that is new, that is there, and that is Gone.
func TestPutArguments(t *testing.T) {
	for _, keys := range [][]key{nil, {{Key: "k", V: []api.Ver{there(2, 2, 2, 1, "", 0)}}}, {{Key: "k", V: []api.Ver{gone(2, 2)}}}} {
		x := laid(t, keys...)
		least := int64(0)
		if len(keys) > 0 {
			least = 2
		}
		held := func(rev, mod int64, value string, lease int64, ok bool) {
			t.Helper()
			y, e := x.Put("k", rev, mod, value, lease)
			if !ok || rev <= least || mod <= least {
				fails(t, "Put", y, e, api.ErrArg)
				stands(t, "what it was asked of", x, keys)
				return
			}
			v := there(rev, mod, mod, 1, value, lease)
			if len(keys) > 0 && !keys[0].V[0].Gone {
				v.Make, v.Version = 2, 2
			}
			comes(t, "Put", y, e, with(keys, "k", v))
		}
		for _, rev := range append(numbers(), number{3, true}) {
			for _, mod := range append(numbers(), number{3, true}) {
				held(rev.v, mod.v, "v", 1, rev.ok && mod.ok)
			}
		}
		for _, lease := range leases() {
			for _, n := range []int{0, 1, 39, 40, 41, 80} {
				held(7, 8, strings.Repeat("v", n), lease.v, lease.ok && n <= 40)
			}
		}
	}
}

// P15.1: a Put whose rev or mod isn't above the key's last ones is ErrArg, be that there or Gone; other keys' don't count.
func TestPutThatDoesNotRise(t *testing.T) {
	x := laid(t, town()...)
	for _, k := range town() {
		end := k.V[len(k.V)-1]
		for _, rev := range []int64{1, end.Rev - 1, end.Rev, end.Rev + 1} {
			for _, mod := range []int64{1, end.Mod - 1, end.Mod, end.Mod + 1} {
				y, e := x.Put(k.Key, rev, mod, "v", 0)
				if rev <= end.Rev || mod <= end.Mod {
					fails(t, "Put of "+k.Key, y, e, api.ErrArg)
				} else if v, ok := y.Live(k.Key); e != api.OK || !ok || v.Rev != rev || v.Mod != mod {
					t.Errorf("Put of %s at %d, %d: %v, %+v", k.Key, rev, mod, e, v)
				}
			}
		}
	}
	stands(t, "what it was asked of", x, town())
}

// P15.1: an Add has the version as it is, of whatever key, be that new, there or Gone.
func TestAdd(t *testing.T) {
	x := laid(t, town()...)
	for _, k := range []string{"!", "a", "b", "c/", "c/x", "c/y", "~", "~~", strings.Repeat("k", 32)} {
		for _, v := range []api.Ver{
			there(13, 1, 130, 41, "new", -3),
			there(top, top, top, top, strings.Repeat("v", 40), top),
			gone(13, 130),
			gone(top, top),
		} {
			y, e := x.Add(k, v)
			comes(t, "Add of "+k, y, e, with(town(), k, v))
		}
	}
	stands(t, "what it was made of", x, town())
}

// P15.1: an Add of a version that isn't right is ErrArg.
func TestAddOfWhatIsNotRight(t *testing.T) {
	x := laid(t, town()...)
	for what, v := range map[string]api.Ver{
		"a zero one":              {},
		"a Rev of 0":              there(0, 1, 130, 1, "v", 0),
		"a Rev above MaxRev":      there(top+1, 1, 130, 1, "v", 0),
		"a Mod of 0":              there(13, 1, 0, 1, "v", 0),
		"a Mod above MaxRev":      there(13, 1, top+1, 1, "v", 0),
		"a Make of 0":             there(13, 0, 130, 1, "v", 0),
		"a Make above its Mod":    there(13, 131, 130, 1, "v", 0),
		"a Version of 0":          there(13, 1, 130, 0, "v", 0),
		"a Version above MaxRev":  there(13, 1, 130, top+1, "v", 0),
		"too long a Value":        there(13, 1, 130, 1, strings.Repeat("v", 41), 0),
		"a Lease beyond":          there(13, 1, 130, 1, "v", top+1),
		"a Lease beyond below":    there(13, 1, 130, 1, "v", -top-1),
		"one Gone of Rev 0":       gone(0, 130),
		"one Gone of Mod 0":       gone(13, 0),
		"one Gone with a Make":    {Rev: 13, Mod: 130, Gone: true, Make: 1},
		"one Gone with a Version": {Rev: 13, Mod: 130, Gone: true, Version: 1},
		"one Gone with a Value":   {Rev: 13, Mod: 130, Gone: true, Value: "v"},
		"one Gone with a Lease":   {Rev: 13, Mod: 130, Gone: true, Lease: 1},
	} {
		for _, k := range []string{"a", "b", "e"} {
			y, e := x.Add(k, v)
			fails(t, "Add of "+what, y, e, api.ErrArg)
		}
	}
	stands(t, "what it was asked of", x, town())
}

// P15.1: an Add whose Rev or Mod isn't above the key's last ones is ErrArg; other keys' don't count.
func TestAddThatDoesNotRise(t *testing.T) {
	x := laid(t, town()...)
	for _, k := range town() {
		end := k.V[len(k.V)-1]
		for _, rev := range []int64{1, end.Rev - 1, end.Rev, end.Rev + 1} {
			for _, mod := range []int64{1, end.Mod - 1, end.Mod, end.Mod + 1} {
				for _, v := range []api.Ver{there(rev, 1, mod, 1, "v", 0), gone(rev, mod)} {
					y, e := x.Add(k.Key, v)
					if rev <= end.Rev || mod <= end.Mod {
						fails(t, "Add of "+k.Key, y, e, api.ErrArg)
					} else {
						comes(t, "Add of "+k.Key, y, e, with(town(), k.Key, v))
					}
				}
			}
		}
	}
	stands(t, "what it was asked of", x, town())
}
