package lease_test

import (
	"fmt"
	"testing"

	"decamp/api"
	"decamp/lease"
)

// P16.2: Hold holds routed ones alone, each with what is left; who is held already stays as it is.
func TestHold(t *testing.T) {
	x := laid(t, runs(-3, 10, 15), rests(-4, 10, 6), runs(3, 10, 15), rests(4, 10, 6), runs(5, 10, 12), runs(top, 10, 18), runs(1, 10, 20))
	for _, c := range []struct{ now, three, five, last, first int64 }{
		{0, 15, 12, 18, 20},
		{11, 4, 1, 7, 9},
		{12, 3, 0, 6, 8},
		{13, 2, 0, 5, 7},
		{20, 0, 0, 0, 0},
		{top, 0, 0, 0, 0},
	} {
		want := []one{runs(-3, 10, 15), rests(-4, 10, 6), rests(3, 10, c.three), rests(4, 10, 6), rests(5, 10, c.five), rests(top, 10, c.last), rests(1, 10, c.first)}
		y := x.Hold(c.now)
		stands(t, fmt.Sprintf("Hold at %d", c.now), y, sorted(want))
		for _, later := range []int64{0, c.now, 30, top} {
			stands(t, fmt.Sprintf("Hold at %d and %d", c.now, later), y.Hold(later), sorted(want))
		}
	}
	stands(t, "Hold where none is routed", laid(t, runs(-3, 10, 15), rests(-4, 10, 6)).Hold(5), []one{rests(-4, 10, 6), runs(-3, 10, 15)})
}

// P16.2: who is granted behind a Hold isn't held, till the next one.
func TestHoldAndWhoComesBehind(t *testing.T) {
	x := laid(t, runs(3, 10, 15)).Hold(12)
	x, e := x.Grant(4, 5, 20)
	comes(t, "Grant", x, e, []one{rests(3, 10, 3), runs(4, 5, 25)})
	stands(t, "Hold", x.Hold(22), []one{rests(3, 10, 3), rests(4, 5, 3)})
	stands(t, "Free", x.Free(22), []one{runs(3, 10, 25), runs(4, 5, 25)})
}

// P16.2: Free frees all that are held, routed or not; who isn't held stays as it is, also if it has ended.
func TestFree(t *testing.T) {
	x := laid(t, runs(-3, 10, 15), rests(-4, 10, 6), runs(3, 10, 15), rests(4, 10, 6), rests(5, 10, 0), rests(-5, 10, 0), rests(6, longest, longest))
	for _, now := range []int64{0, 1, 15, 16, top - 1, top} {
		want := []one{runs(-3, 10, 15), runs(-4, 10, now+6), runs(3, 10, 15), runs(4, 10, now+6), runs(5, 10, now), runs(-5, 10, now), runs(6, longest, now+longest)}
		y := x.Free(now)
		stands(t, fmt.Sprintf("Free at %d", now), y, sorted(want))
		stands(t, fmt.Sprintf("Free at %d, and once more", now), y.Free(now+1), sorted(want))
	}
	stands(t, "Free where none is held", laid(t, runs(-3, 10, 15), runs(3, 10, 8)).Free(50), []one{runs(-3, 10, 15), runs(3, 10, 8)})
}

// P16.2: between a Hold and a Free no time goes by for who is held, whichever of the two times is the later one.
func TestHoldAndFree(t *testing.T) {
	x := laid(t, runs(3, 10, 15), runs(4, 10, 8), runs(-3, 10, 15))
	for _, c := range []struct{ hold, free, three, four int64 }{
		{10, 10, 15, 10},
		{10, 30, 35, 30},
		{10, 4, 9, 4},
		{5, 100, 110, 103},
		{15, 15, 15, 15},
		{16, 2, 2, 2},
		{0, 0, 15, 8},
		{0, top, top + 15, top + 8},
		{top, 0, 0, 0},
	} {
		y := x.Hold(c.hold).Free(c.free)
		stands(t, fmt.Sprintf("%+v", c), y, []one{runs(-3, 10, 15), runs(3, 10, c.three), runs(4, 10, c.four)})
	}
	stands(t, "what it was asked of", x, []one{runs(-3, 10, 15), runs(3, 10, 15), runs(4, 10, 8)})
}

// P16.2: what is kept while it is held has its TTL left, and goes on from the Free.
func TestKeepBetweenHoldAndFree(t *testing.T) {
	x := laid(t, runs(3, 10, 15), runs(4, 10, 15)).Hold(12)
	x, e := x.Keep(3, 13)
	comes(t, "Keep", x, e, []one{rests(3, 10, 10), rests(4, 10, 3)})
	stands(t, "Free", x.Free(40), []one{runs(3, 10, 50), runs(4, 10, 43)})
}

// P16.2: of as many as may be granted all are held, and freed.
func TestHoldOfMany(t *testing.T) {
	x, l := filled(t, most, most)
	y := x.Hold(13)
	stands(t, "Hold", y, heldAt(l, 13))
	z := y.Free(100)
	stands(t, "Free", z, freedAt(heldAt(l, 13), 100))
	if n := len(z.Due(101)); n != most {
		t.Errorf("due: %d", n)
	}
	if n := len(z.Due(102)); n != 2*most {
		t.Errorf("due: %d", n)
	}
}

// A Hold at an early time and a Free at a late one, over and over, let an end go far beyond all times.
func TestHoldEarlyAndFreeLate(t *testing.T) {
	var x lease.Table
	x, e := x.Grant(3, 5, 0)
	comes(t, "Grant", x, e, []one{runs(3, 5, 5)})
	for n := range int64(1000) {
		x = x.Hold(0).Free(top)
		stands(t, fmt.Sprintf("%d times", n+1), x, []one{runs(3, 5, 5+(n+1)*top)})
	}
	if l, ok := x.Get(3, top); l != (api.Lease{ID: 3, TTL: 5, Left: 5 + 999*top}) || !ok {
		t.Errorf("Get: %+v, %v", l, ok)
	}
}
