package hist_test

import (
	"math"
	"math/rand"
	"testing"

	"decamp/api"
	"decamp/hist"
)

// sameFrom holds that what was trimmed is a history, that At answers the same of both at each of these revs that isn't below floor, and that Live does.
func sameFrom(t *testing.T, h, trimmed []api.Ver, floor int64, revs []int64) {
	t.Helper()
	if !hist.Right(trimmed) {
		t.Fatalf("%s, trimmed at %d, isn't a history: %s", text(h), floor, text(trimmed))
	}
	for _, rev := range revs {
		if rev < floor {
			continue
		}
		was, wasOk := hist.At(h, rev)
		is, ok := hist.At(trimmed, rev)
		if is != was || ok != wasOk {
			t.Fatalf("%s, trimmed at %d: At %d: %v, %v, want %v, %v", text(h), floor, rev, is, ok, was, wasOk)
		}
	}
	was, wasOk := hist.Live(h)
	is, ok := hist.Live(trimmed)
	if is != was || ok != wasOk {
		t.Fatalf("%s, trimmed at %d: Live %v, %v, want %v, %v", text(h), floor, is, ok, was, wasOk)
	}
}

// least holds that a Trim has left no more than it may: all above the floor, and of the others one at most, that isn't Gone.
func least(t *testing.T, h, trimmed []api.Ver, floor int64) {
	t.Helper()
	below := 0
	for _, v := range trimmed {
		if v.Rev <= floor {
			below++
			if v.Gone {
				t.Fatalf("%s, trimmed at %d, has one Gone: %s", text(h), floor, text(trimmed))
			}
		}
	}
	if below > 1 {
		t.Fatalf("%s, trimmed at %d, has %d that aren't above: %s", text(h), floor, below, text(trimmed))
	}
	if above := hist.Since(h, floor+1, math.MaxInt64); len(trimmed) != below+len(above) {
		t.Fatalf("%s, trimmed at %d, lacks one above: %s", text(h), floor, text(trimmed))
	}
}

// small are all histories whose Revs are some of 1 to 6, each of them Gone or there.
func small() [][]api.Ver {
	l := [][]api.Ver{{}}
	for rev := int64(1); rev <= 6; rev++ {
		for _, h := range l {
			with := append([]api.Ver{}, h...)
			l = append(l, append(with[:len(with):len(with)], there(rev, 1, rev+2, rev, "v", rev)), append(with[:len(with):len(with)], gone(rev, rev+2)))
		}
	}
	return l
}

// P14.3: of each small history, behind a Trim at each floor, At answers the same at each rev that isn't below it.
func TestTrimOfAllSmallOnes(t *testing.T) {
	revs := []int64{math.MinInt64, -1, 0, 1, 2, 3, 4, 5, 6, 7, 8, top, math.MaxInt64}
	all := small()
	if len(all) != 729 {
		t.Fatalf("%d histories", len(all))
	}
	for _, h := range all {
		for _, floor := range revs[:len(revs)-1] {
			trimmed := hist.Trim(h, floor)
			sameFrom(t, h, trimmed, floor, revs)
			least(t, h, trimmed, floor)
		}
		sameFrom(t, h, hist.Trim(h, math.MaxInt64), math.MaxInt64, revs)
	}
}

// P14.3: a Trim behind a Trim leaves what one at the higher floor leaves, and goes no way back.
func TestTrimTwice(t *testing.T) {
	revs := []int64{0, 1, 2, 3, 4, 5, 6, 7}
	for _, h := range small() {
		for _, one := range revs {
			for _, two := range revs {
				trimmed := hist.Trim(hist.Trim(h, one), two)
				are(t, "Trim, and Trim", trimmed, hist.Trim(h, max(one, two)))
				sameFrom(t, h, trimmed, max(one, two), revs)
			}
		}
	}
}

// grown is a history as keys come to have them, by so many puts and dels at revisions that rise by some.
func grown(t *testing.T, r *rand.Rand, turns int) []api.Ver {
	t.Helper()
	h := []api.Ver{}
	rev, mod := int64(0), int64(0)
	for range turns {
		rev, mod = rev+1+r.Int63n(5), mod+1+r.Int63n(1<<30)
		longer, e := hist.Put(h, rev, mod, "v", r.Int63n(3))
		if r.Intn(3) == 0 {
			longer, e = hist.Del(h, rev, mod)
		}
		if e == api.OK {
			h = longer
		} else if e != api.ErrNone {
			t.Fatalf("%s: %v", text(h), e)
		}
	}
	return h
}

// P14.3: of long histories, too; and what is put behind a Trim is what is put without it.
func TestTrimOfLongOnes(t *testing.T) {
	for seed := range int64(100) {
		r := rand.New(rand.NewSource(seed))
		h := grown(t, r, 60)
		revs := []int64{}
		for rev := range int64(320) {
			revs = append(revs, rev)
		}
		for range 20 {
			floor := r.Int63n(320)
			trimmed := hist.Trim(h, floor)
			sameFrom(t, h, trimmed, floor, revs)
			least(t, h, trimmed, floor)
			one, e := hist.Put(h, 400, 1<<38, "v", 0)
			two, e2 := hist.Put(trimmed, 400, 1<<38, "v", 0)
			if e != api.OK || e2 != api.OK || one[len(one)-1] != two[len(two)-1] {
				t.Fatalf("%s, trimmed at %d: Put %v, %v", text(h), floor, e, e2)
			}
		}
	}
}
