package lease_test

import (
	"fmt"
	"math"
	"testing"

	"decamp/api"
)

// P16.1: who is kept ends at now and its TTL, whether it has ended or not; of one that is held its TTL is left.
func TestKeep(t *testing.T) {
	x := laid(t, town()...)
	for _, o := range town() {
		for _, now := range []int64{0, 1, 7, 8, 9, 13, 500, top - 1, top} {
			want := runs(o.id, o.ttl, now+o.ttl)
			if o.held {
				want = rests(o.id, o.ttl, o.ttl)
			}
			y, e := x.Keep(o.id, now)
			comes(t, fmt.Sprintf("Keep of %+v at %d", o, now), y, e, with(town(), want))
		}
	}
	stands(t, "what it was asked of", x, town())
}

// P16.1: Keep over and over goes by the last time alone, be it earlier or later.
func TestKeepAgain(t *testing.T) {
	x := laid(t, runs(3, 10, 12), runs(-3, 10, 12))
	for _, now := range []int64{20, 21, 5, 0, top, 30} {
		y, e := x.Keep(3, now)
		comes(t, fmt.Sprintf("Keep at %d", now), y, e, []one{runs(-3, 10, 12), runs(3, 10, now+10)})
		x = y
	}
}

// P16.1: who isn't there isn't kept; of a time that is none that stands first.
func TestKeepOfNone(t *testing.T) {
	x := laid(t, town()...)
	for _, id := range []int64{math.MinInt64, -top - 1, -top + 1, -8, 0, 3, 8, top - 1, top + 1, math.MaxInt64} {
		for _, now := range nows() {
			want := api.ErrLease
			if !now.ok {
				want = api.ErrArg
			}
			y, e := x.Keep(id, now.v)
			fails(t, fmt.Sprintf("Keep of %d at %d", id, now.v), y, e, want)
		}
	}
	for _, id := range []int64{7, 9, -7, -9} {
		y, e := x.Keep(id, top+1)
		fails(t, fmt.Sprintf("Keep of %d at no time", id), y, e, api.ErrArg)
	}
	y, ok := x.Drop(7)
	if !ok {
		t.Error("Drop: it wasn't there")
	}
	y, e := y.Keep(7, 10)
	fails(t, "Keep of what was dropped", y, e, api.ErrLease)
}

// P16.1: Drop leaves all but that one, and tells whether it was there, whether it runs, is held, or has ended.
func TestDrop(t *testing.T) {
	x := laid(t, town()...)
	for _, o := range town() {
		y, ok := x.Drop(o.id)
		if !ok {
			t.Errorf("Drop of %d: it wasn't there", o.id)
		}
		stands(t, fmt.Sprintf("Drop of %d", o.id), y, without(town(), o.id))
		y, ok = y.Drop(o.id)
		if ok {
			t.Errorf("Drop of %d once more: it was there", o.id)
		}
		stands(t, fmt.Sprintf("Drop of %d once more", o.id), y, without(town(), o.id))
	}
	stands(t, "what it was asked of", x, town())
}

// P16.1: of one that isn't there what is without it is all.
func TestDropOfNone(t *testing.T) {
	x := laid(t, town()...)
	for _, id := range []int64{math.MinInt64, -top - 1, -top + 1, -8, 0, 3, 8, top - 1, top + 1, math.MaxInt64} {
		y, ok := x.Drop(id)
		if ok {
			t.Errorf("Drop of %d: it was there", id)
		}
		stands(t, fmt.Sprintf("Drop of %d", id), y, town())
	}
}

// P16.1: all may be dropped, one by one.
func TestDropOfAll(t *testing.T) {
	x, l := laid(t, town()...), town()
	for _, id := range []int64{7, -top, 9, -9, top, 1, -2, 2, -1, -7} {
		y, ok := x.Drop(id)
		if !ok {
			t.Errorf("Drop of %d: it wasn't there", id)
		}
		x, l = y, without(l, id)
		stands(t, fmt.Sprintf("Drop of %d", id), x, l)
	}
	if len(l) != 0 {
		t.Errorf("left: %v", l)
	}
}
