package lease_test

import (
	"fmt"
	"testing"

	"decamp/api"
	"decamp/lease"
)

// P16.1: Grant takes every id, TTL and time that may be, and no other one.
func TestGrantNumbers(t *testing.T) {
	x := laid(t, runs(5, 6, 10), rests(-5, 6, 3))
	for _, id := range ids() {
		for _, ttl := range ttls() {
			for _, now := range nows() {
				what := fmt.Sprintf("Grant of %d, %d, %d", id.v, ttl.v, now.v)
				y, e := x.Grant(id.v, ttl.v, now.v)
				if id.ok && ttl.ok && now.ok {
					comes(t, what, y, e, sorted([]one{runs(5, 6, 10), rests(-5, 6, 3), runs(id.v, ttl.v, now.v+ttl.v)}))
				} else {
					fails(t, what, y, e, api.ErrArg)
				}
			}
		}
	}
	stands(t, "what it was asked of", x, []one{rests(-5, 6, 3), runs(5, 6, 10)})
}

// P16.1: who is there isn't granted, whether it runs, is held, or has ended; of the other sign it is another one.
func TestGrantOfWhatIsThere(t *testing.T) {
	x := laid(t, town()...)
	for _, o := range town() {
		for _, now := range []int64{0, 10, top} {
			y, e := x.Grant(o.id, 5, now)
			fails(t, fmt.Sprintf("Grant of %d at %d", o.id, now), y, e, api.ErrBusy)
		}
	}
	y := laid(t, runs(4, 5, 9))
	z, e := y.Grant(-4, 7, 2)
	comes(t, "Grant of the other sign", z, e, []one{runs(-4, 7, 9), runs(4, 5, 9)})
	z, ok := y.Drop(4)
	if !ok {
		t.Error("Drop: it wasn't there")
	}
	z, e = z.Grant(4, 7, 2)
	comes(t, "Grant of what was dropped", z, e, []one{runs(4, 7, 9)})
}

// filled is a Table of so many of each kind, which were granted one by one.
func filled(t *testing.T, routed, others int) (lease.Table, []one) {
	t.Helper()
	var x lease.Table
	l := append(many(routed, 1, 3), many(others, -1, -3)...)
	for _, o := range l {
		y, e := x.Grant(o.id, o.ttl, o.at-o.ttl)
		if e != api.OK {
			t.Fatalf("Grant of %+v of %d and %d: %v", o, routed, others, e)
		}
		x = y
	}
	return x, sorted(l)
}

// P16.1: of each kind there is room for MaxLeases, however full the other one is.
func TestGrantOfOneMore(t *testing.T) {
	for _, c := range []struct {
		routed, others     int
		oneMore, anotherOf bool
	}{
		{0, 0, true, true},
		{most - 1, 0, true, true},
		{most, 0, false, true},
		{most, most - 1, false, true},
		{most - 1, most - 1, true, true},
		{0, most - 1, true, true},
		{0, most, true, false},
		{most - 1, most, true, false},
		{most, most, false, false},
	} {
		x, l := filled(t, c.routed, c.others)
		stands(t, "filled", x, l)
		for _, id := range []int64{2, 3, top, -2, -3, -top} {
			what := fmt.Sprintf("Grant of %d of %d and %d", id, c.routed, c.others)
			y, e := x.Grant(id, 9, 11)
			if id > 0 && c.oneMore || id < 0 && c.anotherOf {
				comes(t, what, y, e, with(l, runs(id, 9, 20)))
			} else {
				fails(t, what, y, e, api.ErrFull)
			}
		}
	}
}

// P16.1: who is held, or has ended, takes up room as well, till it is dropped.
func TestGrantWhereRoomIsTakenUp(t *testing.T) {
	x, l := filled(t, most, most)
	y := x.Hold(12)
	z, e := y.Grant(2, 9, 500)
	fails(t, "Grant where all are held", z, e, api.ErrFull)
	z, e = x.Grant(2, 9, 500)
	fails(t, "Grant where all have ended", z, e, api.ErrFull)
	for _, id := range []int64{1, 4, 190} {
		z, ok := x.Drop(id)
		if !ok {
			t.Errorf("Drop of %d: it wasn't there", id)
		}
		w, e := z.Grant(-2, 9, 500)
		fails(t, "Grant of another kind than was dropped", w, e, api.ErrFull)
		w, e = z.Grant(2, 9, 500)
		comes(t, "Grant behind Drop", w, e, with(without(l, id), runs(2, 9, 509)))
		w, e = w.Grant(3, 9, 500)
		fails(t, "Grant of one more", w, e, api.ErrFull)
	}
}

// P16.1: Put isn't bound by MaxLeases, so that there may be more: then there is no room either.
func TestGrantWhereMoreAreThere(t *testing.T) {
	l := append(many(most+2, 1, 3), many(most+1, -1, -3)...)
	x := laid(t, l...)
	stands(t, "Put", x, sorted(l))
	for _, id := range []int64{2, -2} {
		y, e := x.Grant(id, 9, 11)
		fails(t, fmt.Sprintf("Grant of %d", id), y, e, api.ErrFull)
	}
	y, e := x.Grant(1, 9, 11)
	fails(t, "Grant of what is there", y, e, api.ErrBusy)
}

// P16.1, R6: ErrArg stands first, then ErrBusy, then ErrFull.
func TestGrantErrorsInOrder(t *testing.T) {
	x, _ := filled(t, most, most)
	for _, c := range []struct {
		id, ttl, now int64
		want         api.Errno
	}{
		{1, 0, 5, api.ErrArg},
		{1, longest + 1, 5, api.ErrArg},
		{1, 5, -1, api.ErrArg},
		{1, 5, top + 1, api.ErrArg},
		{-1, 0, 5, api.ErrArg},
		{-1, 5, -1, api.ErrArg},
		{2, 0, 5, api.ErrArg},
		{2, 5, -1, api.ErrArg},
		{-2, longest + 1, 5, api.ErrArg},
		{-2, 5, top + 1, api.ErrArg},
		{0, 5, 5, api.ErrArg},
		{top + 1, 5, 5, api.ErrArg},
		{-top - 1, 5, 5, api.ErrArg},
		{1, 5, 5, api.ErrBusy},
		{-1, 5, 5, api.ErrBusy},
		{190, 5, 5, api.ErrBusy},
		{2, 5, 5, api.ErrFull},
		{-2, 5, 5, api.ErrFull},
	} {
		y, e := x.Grant(c.id, c.ttl, c.now)
		fails(t, fmt.Sprintf("Grant of %d, %d, %d", c.id, c.ttl, c.now), y, e, c.want)
	}
}
