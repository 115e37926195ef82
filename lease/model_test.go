package lease_test

import (
	"fmt"
	"math"
	"math/rand"
	"testing"

	"decamp/api"
	"decamp/lease"
)

// model is what a Table should have, by ids. It stays as it is: a changed one is another one.
type model map[int64]one

// set is the model with that one.
func (m model) set(x one) model {
	n := model{x.id: x}
	for id, o := range m {
		if id != x.id {
			n[id] = o
		}
	}
	return n
}

// rid is the model without that one.
func (m model) rid(id int64) model {
	n := model{}
	for k, o := range m {
		if k != id {
			n[k] = o
		}
	}
	return n
}

// list are all, by ids, rising.
func (m model) list() []one {
	l := []one{}
	for _, o := range m {
		l = append(l, o)
	}
	return sorted(l)
}

func isTime(now int64) bool { return 0 <= now && now <= top }

func isTTL(ttl int64) bool { return 0 < ttl && ttl < longest+1 }

func isID(id int64) bool { return id != 0 && max(id, -id) <= top && id != math.MinInt64 }

// kind counts those that are routed, or those that aren't.
func (m model) kind(routed bool) int {
	n := 0
	for id := range m {
		if id > 0 == routed {
			n++
		}
	}
	return n
}

func (m model) grant(id, ttl, now int64) (model, api.Errno) {
	_, there := m[id]
	switch {
	case !isID(id), !isTTL(ttl), !isTime(now):
		return nil, api.ErrArg
	case there:
		return nil, api.ErrBusy
	case m.kind(id > 0) > most-1:
		return nil, api.ErrFull
	}
	return m.set(runs(id, ttl, now+ttl)), api.OK
}

func (m model) keep(id, now int64) (model, api.Errno) {
	x, there := m[id]
	switch {
	case !isTime(now):
		return nil, api.ErrArg
	case !there:
		return nil, api.ErrLease
	case x.held:
		return m.set(rests(id, x.ttl, x.ttl)), api.OK
	}
	return m.set(runs(id, x.ttl, now+x.ttl)), api.OK
}

func (m model) hold(now int64) model {
	n := m
	for id, x := range m {
		if isTime(now) && id > 0 && !x.held {
			n = n.set(rests(id, x.ttl, x.tells(now).Left))
		}
	}
	return n
}

func (m model) free(now int64) model {
	n := m
	for id, x := range m {
		if isTime(now) && x.held {
			n = n.set(runs(id, x.ttl, now+x.at))
		}
	}
	return n
}

func (m model) reset(l []api.Lease, now int64) (model, api.Errno) {
	if len(l) > most || !isTime(now) {
		return nil, api.ErrArg
	}
	n, seen := model{}, map[int64]int{}
	for id, x := range m {
		if id < 0 {
			n[id] = x
		}
	}
	for _, x := range l {
		seen[x.ID]++
		if !isID(x.ID) || x.ID < 0 || !isTTL(x.TTL) || seen[x.ID] > 1 {
			return nil, api.ErrArg
		}
		n[x.ID] = runs(x.ID, x.TTL, now+x.TTL)
	}
	return n, api.OK
}

func (m model) put(x api.Lease, held bool, now int64) (model, api.Errno) {
	if !isID(x.ID) || !isTTL(x.TTL) || !isTime(now) || x.Left < 0 || x.TTL < x.Left {
		return nil, api.ErrArg
	}
	if held {
		return m.set(rests(x.ID, x.TTL, x.Left)), api.OK
	}
	return m.set(runs(x.ID, x.TTL, now+x.Left)), api.OK
}

// some is one of these.
func some[T any](r *rand.Rand, l ...T) T { return l[r.Intn(len(l))] }

// pair is a Table, and what it should be.
type pair struct {
	x lease.Table
	m model
	// now is about the time to which it has come.
	now int64
}

// name is one of few ids, or, of a crowd, of many; seldom what is none.
func name(r *rand.Rand, crowd bool) int64 {
	switch {
	case r.Intn(30) == 0:
		return some[int64](r, 0, -top-1, top+1, math.MinInt64, math.MaxInt64)
	case crowd && r.Intn(3) > 0:
		return some[int64](r, 1, -1) * (1 + r.Int63n(most+8))
	}
	return some[int64](r, -top, -3, -2, -1, 1, 2, 3, top)
}

// span is a TTL, seldom what is none.
func span(r *rand.Rand) int64 {
	if r.Intn(20) == 0 {
		return some[int64](r, -1, 0, longest, longest+1, math.MaxInt64)
	}
	return 1 + r.Int63n(12)
}

// near is a time around that of p; seldom one far off, or what is none.
func (p pair) near(r *rand.Rand) int64 {
	if r.Intn(20) == 0 {
		return some[int64](r, math.MinInt64, -1, 0, top-3, top, top+1, math.MaxInt64)
	}
	return max(p.now+r.Int63n(15)-5, 0)
}

// told is a list for Set.
func told(r *rand.Rand, crowd bool) []api.Lease {
	l := []api.Lease{}
	n := r.Intn(5)
	if crowd {
		n = most - 3 + r.Intn(5)
	}
	for i := range n {
		x := api.Lease{ID: int64(i + 1), TTL: span(r), Left: r.Int63n(9)}
		if !crowd || r.Intn(200) == 0 {
			x.ID = max(name(r, crowd), -name(r, crowd))
		}
		if crowd && r.Intn(10) > 0 {
			x.TTL = 5
		}
		l = append(l, x)
	}
	return l
}

// held holds what a call that changes answered, and answers what is gone on from.
func (p pair) held(t *testing.T, what string, x lease.Table, e api.Errno, m model, want api.Errno) pair {
	t.Helper()
	what += " of " + text(p.m.list())
	if e != want {
		t.Fatalf("%s: %v, want %v", what, e, want)
	}
	if e != api.OK {
		fails(t, what, x, e, want)
		return p
	}
	p.x, p.m = x, m
	return p
}

// turn does one thing to a Table, holds what it answers, and answers what it has come to.
func (p pair) turn(t *testing.T, r *rand.Rand, crowd bool) pair {
	t.Helper()
	p.now += r.Int63n(3)
	id, ttl, now := name(r, crowd), span(r), p.near(r)
	switch r.Intn(14) {
	case 0, 1, 2, 3:
		x, e := p.x.Grant(id, ttl, now)
		m, want := p.m.grant(id, ttl, now)
		return p.held(t, fmt.Sprintf("Grant of %d, %d, %d", id, ttl, now), x, e, m, want)
	case 4, 5:
		x, e := p.x.Keep(id, now)
		m, want := p.m.keep(id, now)
		return p.held(t, fmt.Sprintf("Keep of %d, %d", id, now), x, e, m, want)
	case 6, 7:
		x, ok := p.x.Drop(id)
		if _, want := p.m[id]; ok != want {
			t.Fatalf("Drop of %d of %s: %v", id, text(p.m.list()), ok)
		}
		return p.held(t, fmt.Sprintf("Drop of %d", id), x, api.OK, p.m.rid(id), api.OK)
	case 8:
		return p.held(t, fmt.Sprintf("Hold at %d", now), p.x.Hold(now), api.OK, p.m.hold(now), api.OK)
	case 9, 10:
		return p.held(t, fmt.Sprintf("Free at %d", now), p.x.Free(now), api.OK, p.m.free(now), api.OK)
	case 11:
		l := told(r, crowd)
		x, e := p.x.Set(l, now)
		m, want := p.m.reset(l, now)
		return p.held(t, fmt.Sprintf("Set of %+v, %d", l, now), x, e, m, want)
	}
	l, held := api.Lease{ID: id, TTL: ttl, Left: some(r, 0, ttl, ttl-1, ttl/2, ttl+1, -1)}, r.Intn(2) == 0
	x, e := p.x.Put(l, held, now)
	m, want := p.m.put(l, held, now)
	return p.held(t, fmt.Sprintf("Put of %+v, %v, %d", l, held, now), x, e, m, want)
}

// P16.1, P16.2: in random turns, which go on from any Table that was, each is what the model is, and stays so to the end.
func TestTurns(t *testing.T) {
	for seed := range int64(150) {
		r := rand.New(rand.NewSource(seed))
		pairs := []pair{{m: model{}}}
		for range 120 {
			p := pairs[len(pairs)-1]
			if r.Intn(8) == 0 {
				p = some(r, pairs...)
			}
			p = p.turn(t, r, false)
			stands(t, "now", p.x, p.m.list())
			if t.Failed() {
				t.FailNow()
			}
			pairs = append(pairs, p)
		}
		for _, p := range pairs {
			stands(t, "what was", p.x, p.m.list())
		}
	}
}

// P16.1, P16.2: likewise where MaxLeases of a kind, or nearly as many, or more, are there.
func TestTurnsWhereItIsFull(t *testing.T) {
	full := 0
	for seed := range int64(30) {
		r := rand.New(rand.NewSource(seed))
		x, l := filled(t, most-r.Intn(3), most-r.Intn(3))
		p := pair{x: x, m: model{}, now: 12}
		for _, o := range l {
			p.m[o.id] = o
		}
		for range 150 {
			p = p.turn(t, r, true)
			tells(t, "now", p.x, p.now, p.m.list())
			if t.Failed() {
				t.FailNow()
			}
			if max(p.m.kind(true), p.m.kind(false)) >= most {
				full++
			}
		}
	}
	if full < 1000 {
		t.Errorf("full but %d times", full)
	}
}
