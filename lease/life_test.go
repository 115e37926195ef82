package lease

import (
	"math"
	"testing"

	"decamp/api"
)

// Some eight million Holds at 0 and Frees at MaxRev lead to an end that no number tells: it must not be past.
func TestAnEndThatNoNumberTells(t *testing.T) {
	for _, left := range []int64{math.MaxInt64, math.MaxInt64 - 1, math.MaxInt64 - api.MaxRev + 1, math.MaxInt64 - api.MaxRev} {
		x := Table{}.with(3, life{ttl: 5, held: true, till: left})
		for range 3 {
			x = x.Free(api.MaxRev)
			l, ok := x.Get(3, api.MaxRev)
			if l.Left != math.MaxInt64-api.MaxRev || !ok {
				t.Errorf("%d, freed: %+v, %v", left, l, ok)
			}
			if due := x.Due(api.MaxRev); len(due) != 0 {
				t.Errorf("%d, freed: due is %v", left, due)
			}
			x = x.Hold(0)
			if l, ok := x.Get(3, 0); l.Left != math.MaxInt64 || !ok {
				t.Errorf("%d, held: %+v, %v", left, l, ok)
			}
		}
	}
	x := Table{}.with(3, life{ttl: 5, held: true, till: math.MaxInt64 - api.MaxRev - 1}).Free(api.MaxRev)
	if l, ok := x.Get(3, 0); l.Left != math.MaxInt64-1 || !ok {
		t.Errorf("one that a number tells: %+v, %v", l, ok)
	}
}
