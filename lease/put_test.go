package lease_test

import (
	"fmt"
	"math"
	"testing"

	"decamp/api"
)

// lefts are what a Left of a TTL is asked with.
func lefts(ttl int64) []number {
	return []number{
		{math.MinInt64, false},
		{-1, false},
		{0, true},
		{1, ttl >= 1},
		{ttl - 1, ttl >= 1},
		{ttl, true},
		{ttl + 1, false},
		{math.MaxInt64, false},
	}
}

// P16.2: Put takes every id, TTL and Left that may be, and no other one, held or not.
func TestPutNumbers(t *testing.T) {
	x := laid(t, runs(5, 6, 10), rests(-5, 6, 3))
	for _, id := range ids() {
		for _, ttl := range ttls() {
			for _, left := range lefts(ttl.v) {
				l := api.Lease{ID: id.v, TTL: ttl.v, Left: left.v}
				for want, held := range map[one]bool{runs(id.v, ttl.v, 100+left.v): false, rests(id.v, ttl.v, left.v): true} {
					what := fmt.Sprintf("Put of %+v, %v", l, held)
					y, e := x.Put(l, held, 100)
					if id.ok && ttl.ok && left.ok {
						comes(t, what, y, e, sorted([]one{runs(5, 6, 10), rests(-5, 6, 3), want}))
					} else {
						fails(t, what, y, e, api.ErrArg)
					}
				}
			}
		}
	}
	stands(t, "what it was asked of", x, []one{rests(-5, 6, 3), runs(5, 6, 10)})
}

// P16.2: Put stands in the place of one of its id, whether that runs, is held, or has ended.
func TestPutOfWhatIsThere(t *testing.T) {
	x := laid(t, town()...)
	for _, o := range town() {
		for _, now := range []int64{0, 10, top} {
			what := fmt.Sprintf("Put of %d at %d", o.id, now)
			y, e := x.Put(api.Lease{ID: o.id, TTL: 30, Left: 29}, false, now)
			comes(t, what, y, e, with(town(), runs(o.id, 30, now+29)))
			y, e = x.Put(api.Lease{ID: o.id, TTL: 30, Left: 29}, true, now)
			comes(t, what+", held", y, e, with(town(), rests(o.id, 30, 29)))
		}
	}
	stands(t, "what it was asked of", x, town())
}

// P16.2: what Put has put is kept, held, freed and dropped as any other one.
func TestPutAndOn(t *testing.T) {
	x := laid(t, rests(-3, 10, 4), runs(3, 10, 15))
	y, e := x.Keep(-3, 50)
	comes(t, "Keep", y, e, []one{rests(-3, 10, 10), runs(3, 10, 15)})
	stands(t, "Hold", y.Hold(12), []one{rests(-3, 10, 10), rests(3, 10, 3)})
	stands(t, "Free", y.Free(12), []one{runs(-3, 10, 22), runs(3, 10, 15)})
	y, ok := y.Drop(-3)
	if !ok {
		t.Error("Drop: it wasn't there")
	}
	stands(t, "Drop", y, []one{runs(3, 10, 15)})
}

// P16.2: no bound on how many are there stands ahead of Put.
func TestPutOfOneMore(t *testing.T) {
	x, l := filled(t, most, most)
	for _, id := range []int64{2, -2} {
		y, e := x.Put(api.Lease{ID: id, TTL: 5, Left: 5}, false, 10)
		comes(t, fmt.Sprintf("Put of %d", id), y, e, with(l, runs(id, 5, 15)))
		y, e = x.Put(api.Lease{ID: id, TTL: 5, Left: 5}, true, 10)
		comes(t, fmt.Sprintf("Put of %d, held", id), y, e, with(l, rests(id, 5, 5)))
	}
}
