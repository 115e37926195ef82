package lease_test

import (
	"fmt"
	"math"
	"slices"
	"testing"

	"decamp/api"
	"decamp/lease"
)

// P16.1: Get tells what is from now to the end, 0 at least; of who is held what is left, whatever the time.
func TestGet(t *testing.T) {
	x := laid(t, runs(3, 5, 15), rests(4, 5, 2), runs(-3, 5, 15), rests(-4, 5, 0))
	for _, c := range []struct {
		now, left int64
	}{
		{0, 15},
		{9, 6},
		{10, 5},
		{11, 4},
		{14, 1},
		{15, 0},
		{16, 0},
		{top, 0},
	} {
		for _, id := range []int64{3, -3} {
			got, ok := x.Get(id, c.now)
			if want := (api.Lease{ID: id, TTL: 5, Left: c.left}); got != want || !ok {
				t.Errorf("Get of %d at %d: %+v, %v, want %+v", id, c.now, got, ok, want)
			}
		}
		if got, ok := x.Get(4, c.now); got != (api.Lease{ID: 4, TTL: 5, Left: 2}) || !ok {
			t.Errorf("Get of one that is held, at %d: %+v, %v", c.now, got, ok)
		}
		if got, ok := x.Get(-4, c.now); got != (api.Lease{ID: -4, TTL: 5}) || !ok {
			t.Errorf("Get of one that is held with nothing left, at %d: %+v, %v", c.now, got, ok)
		}
		for _, id := range []int64{math.MinInt64, -top - 1, -5, 0, 5, top + 1, math.MaxInt64} {
			if got, ok := x.Get(id, c.now); got != (api.Lease{}) || ok {
				t.Errorf("Get of %d at %d: %+v, %v", id, c.now, got, ok)
			}
		}
	}
}

// P16.1: an end may be above the greatest time, and is told all the same.
func TestGetOfAnEndBeyondTime(t *testing.T) {
	var x lease.Table
	x, e := x.Grant(3, longest, top)
	comes(t, "Grant", x, e, []one{runs(3, longest, top+longest)})
	if got, ok := x.Get(3, top); got != (api.Lease{ID: 3, TTL: longest, Left: longest}) || !ok {
		t.Errorf("Get: %+v, %v", got, ok)
	}
	if got, ok := x.Get(3, 0); got != (api.Lease{ID: 3, TTL: longest, Left: top + longest}) || !ok {
		t.Errorf("Get at 0: %+v, %v", got, ok)
	}
	if l := x.Due(top); len(l) != 0 {
		t.Errorf("Due: %v", l)
	}
}

// P16.1: Held is of who is there and held, whether time has gone on behind what is left of it or not.
func TestHeld(t *testing.T) {
	x := laid(t, town()...)
	held := []int64{-9, -2, 2, 9}
	for _, id := range []int64{math.MinInt64, -top - 1, -top, -10, -9, -8, -7, -2, -1, 0, 1, 2, 3, 7, 8, 9, 10, top, top + 1, math.MaxInt64} {
		if got := x.Held(id); got != slices.Contains(held, id) {
			t.Errorf("Held of %d: %v", id, got)
		}
	}
	y, e := x.Keep(9, 4)
	if e != api.OK || !y.Held(9) {
		t.Errorf("Keep: %v, and it isn't held", e)
	}
	y, ok := x.Drop(9)
	if !ok || y.Held(9) {
		t.Error("Drop: it is held")
	}
}

// P16.2: Due is of all whose end isn't above now, and that aren't held, rising.
func TestDue(t *testing.T) {
	x := laid(t, runs(5, 3, 13), runs(1, 4, 13), runs(-2, 5, 14), runs(9, 6, 12), rests(3, 7, 0), rests(-3, 7, 7), runs(-top, 1, 1), runs(top, longest, top))
	for _, c := range []struct {
		now  int64
		want []int64
	}{
		{0, nil},
		{1, []int64{-top}},
		{11, []int64{-top}},
		{12, []int64{-top, 9}},
		{13, []int64{-top, 1, 5, 9}},
		{14, []int64{-top, -2, 1, 5, 9}},
		{15, []int64{-top, -2, 1, 5, 9}},
		{top - 1, []int64{-top, -2, 1, 5, 9}},
		{top, []int64{-top, -2, 1, 5, 9, top}},
	} {
		if got := x.Due(c.now); !slices.Equal(got, c.want) {
			t.Errorf("Due at %d: %v, want %v", c.now, got, c.want)
		}
	}
}

// P16.2: one with nothing left is due at once, at time 0 too.
func TestDueAtOnce(t *testing.T) {
	var x lease.Table
	x, e := x.Put(api.Lease{ID: 3, TTL: 5}, false, 0)
	comes(t, "Put", x, e, []one{runs(3, 5, 0)})
	if got := x.Due(0); !slices.Equal(got, []int64{3}) {
		t.Errorf("Due: %v", got)
	}
}

// P16.2: All is of each as Get tells it, by ids, rising: of who is held and who has ended as well.
func TestAll(t *testing.T) {
	x := laid(t, runs(5, 3, 13), rests(-3, 7, 6), runs(-5, 3, 20), rests(3, 7, 0))
	for _, c := range []struct{ now, five, other int64 }{
		{0, 13, 20},
		{12, 1, 8},
		{13, 0, 7},
		{20, 0, 0},
		{top, 0, 0},
	} {
		want := []api.Lease{
			{ID: -5, TTL: 3, Left: c.other},
			{ID: -3, TTL: 7, Left: 6},
			{ID: 3, TTL: 7, Left: 0},
			{ID: 5, TTL: 3, Left: c.five},
		}
		if got := x.All(c.now); !slices.Equal(got, want) {
			t.Errorf("All at %d: %+v, want %+v", c.now, got, want)
		}
	}
}

// P16.2: however they came to be there, all are told in order.
func TestOrder(t *testing.T) {
	l := append(many(most, 1, 3), many(most, -1, -3)...)
	for _, step := range []int{1, 5, 37, 127} {
		var x lease.Table
		for i := range l {
			x = put(t, x, l[i*step%len(l)])
		}
		stands(t, fmt.Sprintf("every %dth", step), x, sorted(l))
		if got := x.Due(15); len(got) != 2*most || !slices.IsSorted(got) {
			t.Errorf("Due: %v", got)
		}
	}
}
