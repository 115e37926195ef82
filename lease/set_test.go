package lease_test

import (
	"fmt"
	"slices"
	"testing"

	"decamp/api"
)

// others are those of these that aren't routed.
func others(l []one) []one {
	return slices.DeleteFunc(slices.Clone(l), func(x one) bool { return x.id > 0 })
}

// P16.2: behind Set the routed ones are just these, none held, each ending at now and its TTL; the others stay as they were.
func TestSet(t *testing.T) {
	x := laid(t, town()...)
	for _, c := range []struct {
		what string
		l    []api.Lease
		want []one
	}{
		{"none", nil, nil},
		{"an empty list", []api.Lease{}, nil},
		{"a new one", []api.Lease{{ID: 3, TTL: 5, Left: 2}}, []one{runs(3, 5, 105)}},
		{"one that is held", []api.Lease{{ID: 9, TTL: 6, Left: 2}}, []one{runs(9, 6, 106)}},
		{"one that runs", []api.Lease{{ID: 7, TTL: 6, Left: 2}}, []one{runs(7, 6, 106)}},
		{"one that has ended", []api.Lease{{ID: 1, TTL: 6}}, []one{runs(1, 6, 106)}},
		{"the least id and TTL", []api.Lease{{ID: 1, TTL: 1, Left: 1}}, []one{runs(1, 1, 101)}},
		{"the greatest id and TTL", []api.Lease{{ID: top, TTL: longest}}, []one{runs(top, longest, 100+longest)}},
		{"some, in no order", []api.Lease{{ID: 8, TTL: 6}, {ID: 2, TTL: 3}, {ID: 5, TTL: 4}}, []one{runs(2, 3, 103), runs(5, 4, 104), runs(8, 6, 106)}},
		{"what is left of them is no matter", []api.Lease{{ID: 5, TTL: 4, Left: -1}, {ID: 6, TTL: 4, Left: 9}, {ID: 8, TTL: 4, Left: top + 1}}, []one{runs(5, 4, 104), runs(6, 4, 104), runs(8, 4, 104)}},
	} {
		y, e := x.Set(c.l, 100)
		comes(t, "Set of "+c.what, y, e, append(others(town()), c.want...))
	}
	stands(t, "what it was asked of", x, town())
}

// P16.2: Set takes every routed id and every TTL that may be, and no other one, wherever it stands in the list.
func TestSetNumbers(t *testing.T) {
	x := laid(t, runs(-5, 6, 10), runs(5, 6, 10))
	for _, id := range ids() {
		for _, ttl := range ttls() {
			for at := range 3 {
				l := slices.Insert([]api.Lease{{ID: 50, TTL: 7}, {ID: 60, TTL: 8}}, at, api.Lease{ID: id.v, TTL: ttl.v})
				what := fmt.Sprintf("Set of %+v", l)
				y, e := x.Set(l, 100)
				if id.ok && id.v > 0 && ttl.ok {
					comes(t, what, y, e, sorted([]one{runs(-5, 6, 10), runs(50, 7, 107), runs(60, 8, 108), runs(id.v, ttl.v, 100+ttl.v)}))
				} else {
					fails(t, what, y, e, api.ErrArg)
				}
			}
		}
	}
	stands(t, "what it was asked of", x, []one{runs(-5, 6, 10), runs(5, 6, 10)})
}

// P16.2: no two ids are alike, wherever they stand in the list, whatever else they have, and whether one of them is there or not.
func TestSetOfTwoAlike(t *testing.T) {
	x := laid(t, town()...)
	for _, id := range []int64{1, 3, 7, 9, top} {
		for n := range 4 {
			for m := range n {
				l := []api.Lease{{ID: 50, TTL: 7}, {ID: 60, TTL: 8}, {ID: 70, TTL: 9}, {ID: 80, TTL: 10}}
				l[n].ID, l[m].ID = id, id
				y, e := x.Set(l, 100)
				fails(t, fmt.Sprintf("Set of %+v", l), y, e, api.ErrArg)
				l[m].TTL = l[n].TTL
				y, e = x.Set(l, 100)
				fails(t, fmt.Sprintf("Set of %+v", l), y, e, api.ErrArg)
			}
		}
	}
}

// plan is a list of so many leases of rising ids, and what they come to at 100.
func plan(n int) ([]api.Lease, []one) {
	l, want := []api.Lease{}, []one{}
	for i := range int64(n) {
		l = append(l, api.Lease{ID: 2 + 3*i, TTL: 1 + i, Left: i})
		want = append(want, runs(2+3*i, 1+i, 101+i))
	}
	return l, want
}

// P16.2: Set takes MaxLeases at most, however many are there.
func TestSetOfMany(t *testing.T) {
	x := laid(t, town()...)
	full, all := filled(t, most, most)
	for _, n := range []int{0, 1, 2, most - 1, most, most + 1, 2 * most} {
		l, want := plan(n)
		y, e := x.Set(l, 100)
		z, e2 := full.Set(l, 100)
		if n > most {
			fails(t, fmt.Sprintf("Set of %d", n), y, e, api.ErrArg)
			fails(t, fmt.Sprintf("Set of %d where all is full", n), z, e2, api.ErrArg)
			continue
		}
		comes(t, fmt.Sprintf("Set of %d", n), y, e, append(others(town()), want...))
		comes(t, fmt.Sprintf("Set of %d where all is full", n), z, e2, append(others(all), want...))
		slices.Reverse(l)
		y, e = x.Set(l, 100)
		comes(t, fmt.Sprintf("Set of %d, falling", n), y, e, append(others(town()), want...))
	}
	stands(t, "what it was asked of", full, all)
}

// P16.2: Grant goes by how many Set has left.
func TestGrantBehindSet(t *testing.T) {
	x, all := filled(t, most, 0)
	l, want := plan(most - 1)
	y, e := x.Set(l, 100)
	comes(t, "Set", y, e, want)
	y, e = y.Grant(1, 5, 100)
	comes(t, "Grant", y, e, with(want, runs(1, 5, 105)))
	y, e = y.Grant(3, 5, 100)
	fails(t, "Grant of one more", y, e, api.ErrFull)
	y, e = x.Grant(3, 5, 100)
	fails(t, "Grant without Set", y, e, api.ErrFull)
	stands(t, "what it was asked of", x, all)
}
