package lease_test

import (
	"fmt"
	"math"
	"slices"
	"testing"

	"decamp/api"
	"decamp/lease"
)

const (
	// top is the greatest id and the greatest time.
	top = 1 << 40
	// longest is the greatest TTL.
	longest = 1000
	// most is how many of a kind may be granted.
	most = 64
)

// one is a lease as a Table should have it: at is the time at which it ends, or, if it is held, what is left.
type one struct {
	id, ttl, at int64
	held        bool
}

// runs is one that isn't held.
func runs(id, ttl, end int64) one { return one{id: id, ttl: ttl, at: end} }

// rests is one that is held.
func rests(id, ttl, left int64) one { return one{id: id, ttl: ttl, at: left, held: true} }

// tells is what should be told of it at now.
func (x one) tells(now int64) api.Lease {
	l := api.Lease{ID: x.id, TTL: x.ttl, Left: x.at}
	if !x.held {
		l.Left = max(x.at, now) - now
	}
	return l
}

// town is what most is asked of: of each kind some that run, that are held, and that have ended, of the least and the greatest ids and TTLs.
func town() []one {
	return []one{
		runs(-top, 3, 13),
		rests(-9, 20, 20),
		runs(-7, longest, 1005),
		rests(-2, 1, 0),
		runs(-1, 4, 8),
		runs(1, 4, 8),
		rests(2, 1, 0),
		runs(7, longest, 1005),
		rests(9, 20, 20),
		runs(top, 3, 13),
	}
}

// laid is a Table of these, each of which was put.
func laid(t *testing.T, l ...one) lease.Table {
	t.Helper()
	var x lease.Table
	for _, o := range l {
		x = put(t, x, o)
	}
	return x
}

// put is the Table with that one put.
func put(t *testing.T, x lease.Table, o one) lease.Table {
	t.Helper()
	left, now := o.at, int64(0)
	if !o.held {
		left = min(o.at, o.ttl)
		now = o.at - left
	}
	x, e := x.Put(api.Lease{ID: o.id, TTL: o.ttl, Left: left}, o.held, now)
	if e != api.OK {
		t.Fatalf("Put of %+v: %v", o, e)
	}
	return x
}

// many are so many of a kind, from the id first on, of ids that are step away from each other.
func many(n int, first, step int64) []one {
	l := []one{}
	for i := range int64(n) {
		l = append(l, runs(first+i*step, 5, 15))
	}
	return sorted(l)
}

// sorted are these by ids, rising.
func sorted(l []one) []one {
	l = slices.Clone(l)
	slices.SortFunc(l, func(a, b one) int {
		if a.id < b.id {
			return -1
		}
		return 1
	})
	return l
}

// without are these without those of the ids.
func without(l []one, ids ...int64) []one {
	return slices.DeleteFunc(slices.Clone(l), func(x one) bool { return slices.Contains(ids, x.id) })
}

// with are these with those in the place of the ones of their ids.
func with(l []one, more ...one) []one {
	for _, x := range more {
		l = append(without(l, x.id), x)
	}
	return sorted(l)
}

// each are these, every one as turn makes it.
func each(l []one, turn func(x one) one) []one {
	l = slices.Clone(l)
	for i, x := range l {
		l[i] = turn(x)
	}
	return l
}

// text tells all of something.
func text(a any) string { return fmt.Sprintf("%+v", a) }

// times are the times at which what is there is looked at: the first and the last one, and around each end.
func times(l []one) []int64 {
	at := []int64{0, 1, top - 1, top}
	for _, x := range l {
		for now := x.at - 1; now <= x.at+1; now++ {
			if now >= 0 && now <= top {
				at = append(at, now)
			}
		}
	}
	slices.Sort(at)
	return slices.Compact(at)
}

// stands holds that a Table has just these, by all calls that tell something, at all times that matter.
func stands(t *testing.T, what string, x lease.Table, want []one) {
	t.Helper()
	for _, now := range times(want) {
		tells(t, fmt.Sprintf("%s, at %d", what, now), x, now, want)
	}
	for _, o := range want {
		if got := x.Held(o.id); got != o.held {
			t.Errorf("%s: Held of %d: %v", what, o.id, got)
		}
		for _, id := range []int64{-o.id, o.id + 1, o.id - 1} {
			absent(t, what, x, id, want)
		}
	}
	for _, id := range []int64{math.MinInt64, -top - 1, 0, 5, top + 1, math.MaxInt64} {
		absent(t, what, x, id, want)
	}
}

// tells holds what a Table of these tells at now.
func tells(t *testing.T, what string, x lease.Table, now int64, want []one) {
	t.Helper()
	all, due := []api.Lease{}, []int64{}
	for _, o := range want {
		all = append(all, o.tells(now))
		if !o.held && o.at <= now {
			due = append(due, o.id)
		}
		if got, ok := x.Get(o.id, now); got != o.tells(now) || !ok {
			t.Errorf("%s: Get of %d: %+v, %v, want %+v", what, o.id, got, ok, o.tells(now))
		}
	}
	if got := x.All(now); !slices.Equal(got, all) {
		t.Errorf("%s: All: %+v, want %+v", what, got, all)
	}
	if got := x.Due(now); !slices.Equal(got, due) {
		t.Errorf("%s: Due: %v, want %v", what, got, due)
	}
}

// absent holds that nothing is told of an id that is none of these.
func absent(t *testing.T, what string, x lease.Table, id int64, l []one) {
	t.Helper()
	if slices.ContainsFunc(l, func(o one) bool { return o.id == id }) {
		return
	}
	for _, now := range []int64{0, 10, top} {
		if got, ok := x.Get(id, now); got != (api.Lease{}) || ok {
			t.Errorf("%s: Get of %d at %d: %+v, %v", what, id, now, got, ok)
		}
	}
	if x.Held(id) {
		t.Errorf("%s: Held of %d", what, id)
	}
}

// comes holds that a call has made a Table of just these.
func comes(t *testing.T, what string, x lease.Table, e api.Errno, want []one) {
	t.Helper()
	if e != api.OK {
		t.Errorf("%s: %v", what, e)
	}
	stands(t, what, x, want)
}

// fails holds that a call has answered this error, and nothing beside it.
func fails(t *testing.T, what string, x lease.Table, e, want api.Errno) {
	t.Helper()
	if e != want {
		t.Errorf("%s: %v, want %v", what, e, want)
	}
	stands(t, what, x, nil)
}

// number is one at an edge, and whether it may be there.
type number struct {
	v  int64
	ok bool
}

// ids are what an id is asked with.
func ids() []number {
	return []number{
		{math.MinInt64, false},
		{-top - 1, false},
		{-top, true},
		{-top + 1, true},
		{-1, true},
		{0, false},
		{1, true},
		{3, true},
		{1 << 32, true},
		{top - 1, true},
		{top, true},
		{top + 1, false},
		{math.MaxInt64, false},
	}
}

// ttls are what a TTL is asked with.
func ttls() []number {
	return []number{
		{math.MinInt64, false},
		{-longest, false},
		{-1, false},
		{0, false},
		{1, true},
		{2, true},
		{longest - 1, true},
		{longest, true},
		{longest + 1, false},
		{1<<32 + 1, false},
		{math.MaxInt64, false},
	}
}

// nows are what a time is asked with.
func nows() []number {
	return []number{
		{math.MinInt64, false},
		{-top, false},
		{-1, false},
		{0, true},
		{1, true},
		{1 << 32, true},
		{top - 1, true},
		{top, true},
		{top + 1, false},
		{math.MaxInt64, false},
	}
}

// The limits of package api are those by which the tests go.
func TestLimits(t *testing.T) {
	if api.MaxRev != top || api.MaxTTL != longest || api.MaxLeases != most {
		t.Error("limits are other ones")
	}
}

// The chapter's example.
func TestExample(t *testing.T) {
	var x lease.Table
	x, e := x.Grant(7, 3, 10)
	comes(t, "Grant", x, e, []one{runs(7, 3, 13)})
	if l := x.Due(12); len(l) != 0 {
		t.Errorf("due ahead of 13: %v", l)
	}
	if l := x.Due(13); !slices.Equal(l, []int64{7}) {
		t.Errorf("due at 13: %v", l)
	}
}

// P16.1: the zero Table has none, and every call has its answer of it.
func TestZero(t *testing.T) {
	var x lease.Table
	stands(t, "zero", x, nil)
	stands(t, "Hold", x.Hold(5), nil)
	stands(t, "Free", x.Free(5), nil)
	y, e := x.Keep(1, 5)
	fails(t, "Keep", y, e, api.ErrLease)
	y, ok := x.Drop(1)
	if ok {
		t.Error("Drop: it was there")
	}
	stands(t, "Drop", y, nil)
	y, e = x.Set(nil, 5)
	comes(t, "Set", y, e, nil)
	y, e = x.Set([]api.Lease{{ID: 1, TTL: 2}}, 5)
	comes(t, "Set of one", y, e, []one{runs(1, 2, 7)})
	y, e = x.Put(api.Lease{ID: -1, TTL: 2, Left: 1}, true, 5)
	comes(t, "Put", y, e, []one{rests(-1, 2, 1)})
	y, e = x.Grant(-1, 2, 5)
	comes(t, "Grant", y, e, []one{runs(-1, 2, 7)})
	stands(t, "zero, at last", x, nil)
}

// withTimes are the calls with a time that answer a Table.
func withTimes() map[string]func(x lease.Table, now int64) (lease.Table, api.Errno) {
	return map[string]func(x lease.Table, now int64) (lease.Table, api.Errno){
		"Grant": func(x lease.Table, now int64) (lease.Table, api.Errno) { return x.Grant(3, 5, now) },
		"Keep":  func(x lease.Table, now int64) (lease.Table, api.Errno) { return x.Keep(7, now) },
		"Set": func(x lease.Table, now int64) (lease.Table, api.Errno) {
			return x.Set([]api.Lease{{ID: 3, TTL: 5}}, now)
		},
		"Set of none": func(x lease.Table, now int64) (lease.Table, api.Errno) { return x.Set(nil, now) },
		"Put": func(x lease.Table, now int64) (lease.Table, api.Errno) {
			return x.Put(api.Lease{ID: 3, TTL: 5, Left: 4}, false, now)
		},
		"Put of one held": func(x lease.Table, now int64) (lease.Table, api.Errno) {
			return x.Put(api.Lease{ID: 3, TTL: 5, Left: 4}, true, now)
		},
	}
}

// P16.1: of a time that is none, calls with an Errno answer ErrArg.
func TestTimesOfCallsWithAnErrno(t *testing.T) {
	x := laid(t, town()...)
	others := []one{}
	for _, o := range town() {
		if o.id < 0 {
			others = append(others, o)
		}
	}
	for _, now := range nows() {
		want := map[string][]one{
			"Grant":           with(town(), runs(3, 5, now.v+5)),
			"Keep":            with(town(), runs(7, longest, now.v+longest)),
			"Set":             with(others, runs(3, 5, now.v+5)),
			"Set of none":     others,
			"Put":             with(town(), runs(3, 5, now.v+4)),
			"Put of one held": with(town(), rests(3, 5, 4)),
		}
		for name, call := range withTimes() {
			what := fmt.Sprintf("%s at %d", name, now.v)
			y, e := call(x, now.v)
			if now.ok {
				comes(t, what, y, e, want[name])
			} else {
				fails(t, what, y, e, api.ErrArg)
			}
			stands(t, what+", what it was asked of", x, town())
		}
	}
}

// P16.1: of a time that is none, the others answer zero, or the same Table.
func TestTimesOfCallsWithoutAnErrno(t *testing.T) {
	x := laid(t, town()...)
	for _, now := range nows() {
		if now.ok {
			tells(t, fmt.Sprintf("at %d", now.v), x, now.v, town())
			stands(t, fmt.Sprintf("Hold at %d", now.v), x.Hold(now.v), heldAt(town(), now.v))
			stands(t, fmt.Sprintf("Free at %d", now.v), x.Free(now.v), freedAt(town(), now.v))
			continue
		}
		for _, o := range town() {
			if l, ok := x.Get(o.id, now.v); l != (api.Lease{}) || ok {
				t.Errorf("Get of %d at %d: %+v, %v", o.id, now.v, l, ok)
			}
		}
		if all, due := x.All(now.v), x.Due(now.v); len(all) != 0 || len(due) != 0 {
			t.Errorf("at %d: %+v, %v", now.v, all, due)
		}
		stands(t, fmt.Sprintf("Hold at %d", now.v), x.Hold(now.v), town())
		stands(t, fmt.Sprintf("Free at %d", now.v), x.Free(now.v), town())
	}
}

// heldAt are these behind a Hold.
func heldAt(l []one, now int64) []one {
	return each(l, func(x one) one {
		if x.id > 0 && !x.held {
			return rests(x.id, x.ttl, x.tells(now).Left)
		}
		return x
	})
}

// freedAt are these behind a Free.
func freedAt(l []one, now int64) []one {
	return each(l, func(x one) one {
		if x.held {
			return runs(x.id, x.ttl, now+x.at)
		}
		return x
	})
}
