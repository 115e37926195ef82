package raft_test

import (
	"fmt"
	"math"
	"slices"
	"testing"

	"decamp/api"
	"decamp/raft"
	"decamp/rmsg"
)

// What the document names, written out, so that these tests hold it too.
const (
	top      = 1 << 40
	most     = 12000
	whole    = 50000
	beat     = 2
	patience = 6
)

// The roles, as State tells them.
const (
	follower = iota
	poller
	candidate
	leader
)

// alike holds that two things are told alike: lists without elements are, nil or not.
func alike(t *testing.T, want, got any) {
	t.Helper()
	if w, g := fmt.Sprintf("%+v", want), fmt.Sprintf("%+v", got); w != g {
		t.Fatalf("%.1000s\nwant\n%.1000s", g, w)
	}
}

func mustBe(t *testing.T, want, got api.Errno) {
	t.Helper()
	if got != want {
		t.Fatalf("%v, want %v", got, want)
	}
}

// one is an entry whose Data tell where it stands.
func one(index, term int64) api.Entry {
	return api.Entry{Index: index, Term: term, Data: fmt.Appendf(nil, "%d/%d", index, term)}
}

// run are entries behind an index, of these terms.
func run(index int64, terms ...int64) []api.Entry {
	var l []api.Entry
	for n, term := range terms {
		l = append(l, one(index+1+int64(n), term))
	}
	return l
}

// snap is one whose Data tell of what it is.
func snap(index, term int64) api.Snap {
	return api.Snap{Index: index, Term: term, Data: fmt.Appendf(nil, "snap %d/%d", index, term)}
}

// begin makes a node that has voted for nobody, with a snap, and entries of these terms behind it.
func begin(t *testing.T, id, n int, term int64, s api.Snap, terms ...int64) *raft.Raft {
	t.Helper()
	r, e := raft.New(id, n, api.Hard{Term: term, Vote: -1}, s, run(s.Index, terms...))
	mustBe(t, api.OK, e)
	return r
}

// ticks lets so many of them go by.
func ticks(r *raft.Raft, many int) {
	for range many {
		r.Tick()
	}
}

// wait lets a node tick till it polls, or rules alone.
func wait(r *raft.Raft, id int) { ticks(r, patience+3*id) }

// step lets a node hear what is right.
func step(t *testing.T, r *raft.Raft, l ...rmsg.Msg) {
	t.Helper()
	for _, m := range l {
		mustBe(t, api.OK, r.Step(m))
	}
}

// says holds that a node has said just this since it was asked last, and that all of it is right.
func says(t *testing.T, r *raft.Raft, want ...rmsg.Msg) {
	t.Helper()
	l := r.Take().Msgs
	alike(t, want, l)
	for _, m := range l {
		if !rmsg.Right(m) {
			t.Fatalf("%+v isn't right", m)
		}
	}
}

// is holds a node's state.
func is(t *testing.T, r *raft.Raft, want raft.State) {
	t.Helper()
	alike(t, want, r.State())
}

// has holds a node's log.
func has(t *testing.T, r *raft.Raft, want ...api.Entry) {
	t.Helper()
	alike(t, want, r.Entries(1, top))
}

// next is the node behind another one, of n.
func next(id, n int) int { return (id + 1) % n }

// candidacy lets a node that was just made be a candidate, by the yes of the next one.
func candidacy(t *testing.T, r *raft.Raft, id, n int) {
	t.Helper()
	wait(r, id)
	step(t, r, rmsg.Msg{Kind: rmsg.Polled, From: next(id, n), To: id, Term: r.State().Hard.Term + 1, Ok: true})
	if s := r.State(); s.Role != candidate {
		t.Fatalf("%+v is no candidate", s)
	}
}

// lead lets a node that was just made lead, by the yeses of the next one, and takes what came of it.
func lead(t *testing.T, r *raft.Raft, id, n int) {
	t.Helper()
	if n == 1 {
		wait(r, id)
	} else {
		candidacy(t, r, id, n)
		step(t, r, rmsg.Msg{Kind: rmsg.Voted, From: next(id, n), To: id, Term: r.State().Hard.Term, Ok: true})
	}
	if s := r.State(); s.Role != leader {
		t.Fatalf("%+v is no leader", s)
	}
	r.Take()
}

// P12.1: which numbers, and which hard, snap and entries a node may be made of.
func TestNewErrors(t *testing.T) {
	h := api.Hard{Term: 3, Vote: -1}
	long := func(n int) []byte { return make([]byte, n) }
	for name, c := range map[string]struct {
		id, n int
		h     api.Hard
		s     api.Snap
		l     []api.Entry
		want  api.Errno
	}{
		"of one":                             {0, 1, h, api.Snap{}, nil, api.OK},
		"the last of three":                  {2, 3, h, api.Snap{}, nil, api.OK},
		"of none":                            {0, 0, h, api.Snap{}, nil, api.ErrArg},
		"of fewer than none":                 {0, -1, h, api.Snap{}, nil, api.ErrArg},
		"of four":                            {0, 4, h, api.Snap{}, nil, api.ErrArg},
		"of very many":                       {0, math.MaxInt, h, api.Snap{}, nil, api.ErrArg},
		"id n of one":                        {1, 1, h, api.Snap{}, nil, api.ErrArg},
		"id n of three":                      {3, 3, h, api.Snap{}, nil, api.ErrArg},
		"id -1":                              {-1, 3, h, api.Snap{}, nil, api.ErrArg},
		"the least id":                       {math.MinInt, 3, h, api.Snap{}, nil, api.ErrArg},
		"term 0":                             {0, 1, api.Hard{Vote: -1}, api.Snap{}, nil, api.OK},
		"term -1":                            {0, 1, api.Hard{Term: -1, Vote: -1}, api.Snap{}, nil, api.ErrArg},
		"the highest term":                   {0, 1, api.Hard{Term: top, Vote: -1}, api.Snap{}, nil, api.OK},
		"a higher one":                       {0, 1, api.Hard{Term: top + 1, Vote: -1}, api.Snap{}, nil, api.ErrArg},
		"a vote for the last":                {0, 1, api.Hard{Term: 3, Vote: 2}, api.Snap{}, nil, api.OK},
		"a vote for a fourth":                {0, 1, api.Hard{Term: 3, Vote: 3}, api.Snap{}, nil, api.ErrArg},
		"a vote for -2":                      {0, 1, api.Hard{Term: 3, Vote: -2}, api.Snap{}, nil, api.ErrArg},
		"a snap":                             {0, 1, h, snap(5, 3), nil, api.OK},
		"a snap of no term":                  {0, 1, h, api.Snap{Index: 5}, nil, api.ErrArg},
		"a snap of no index":                 {0, 1, h, api.Snap{Term: 1}, nil, api.ErrArg},
		"a snap of data alone":               {0, 1, h, api.Snap{Data: long(1)}, nil, api.ErrArg},
		"a snap of an index below 0":         {0, 1, h, api.Snap{Index: -1, Term: 1}, nil, api.ErrArg},
		"a snap of an index too high":        {0, 1, h, api.Snap{Index: top + 1, Term: 1}, nil, api.ErrArg},
		"a snap of most data":                {0, 1, h, api.Snap{Index: 5, Term: 1, Data: long(whole)}, nil, api.OK},
		"a snap of more data":                {0, 1, h, api.Snap{Index: 5, Term: 1, Data: long(whole + 1)}, nil, api.ErrArg},
		"a snap of the node's term":          {0, 1, h, snap(5, 3), nil, api.OK},
		"a snap of a later term":             {0, 1, h, snap(5, 4), nil, api.ErrArg},
		"entries":                            {0, 1, h, api.Snap{}, run(0, 1, 1, 2), api.OK},
		"entries of the node's term":         {0, 1, h, api.Snap{}, run(0, 1, 3), api.OK},
		"entries, the last of a later term":  {0, 1, h, api.Snap{}, run(0, 1, 4), api.ErrArg},
		"an entry of a later term":           {0, 1, h, api.Snap{}, run(0, 4), api.ErrArg},
		"an entry of term 0":                 {0, 1, h, api.Snap{}, run(0, 0), api.ErrArg},
		"an entry of most data":              {0, 1, h, api.Snap{}, []api.Entry{{Index: 1, Term: 1, Data: long(most)}}, api.OK},
		"an entry of more data":              {0, 1, h, api.Snap{}, []api.Entry{{Index: 1, Term: 1, Data: long(most + 1)}}, api.ErrArg},
		"a gap ahead of the entries":         {0, 1, h, api.Snap{}, run(1, 1), api.ErrArg},
		"a gap among the entries":            {0, 1, h, api.Snap{}, []api.Entry{one(1, 1), one(3, 1)}, api.ErrArg},
		"terms that fall":                    {0, 1, h, api.Snap{}, run(0, 2, 1), api.ErrArg},
		"entries behind a snap":              {0, 1, h, snap(5, 2), run(5, 2, 3), api.OK},
		"a gap behind a snap":                {0, 1, h, snap(5, 2), run(6, 2), api.ErrArg},
		"the snap's own entry":               {0, 1, h, snap(5, 2), run(4, 2), api.ErrArg},
		"a term below the snap's":            {0, 1, h, snap(5, 2), run(5, 1), api.ErrArg},
		"a snap, and entries of a late term": {0, 1, h, snap(5, 2), run(5, 2, 4), api.ErrArg},
		"the last index":                     {0, 1, h, snap(top-1, 2), run(top-1, 2), api.OK},
		"a snap of the last index":           {0, 1, h, snap(top, 2), nil, api.OK},
	} {
		r, e := raft.New(c.id, c.n, c.h, c.s, c.l)
		if e != c.want {
			t.Errorf("%s: %v, want %v", name, e, c.want)
		}
		if (r != nil) != (c.want == api.OK) {
			t.Errorf("%s: a node beside %v: %v", name, e, r != nil)
		}
	}
}

// P12.1: a node begins as a follower without a Lead, just woken; what is up to its snap is committed. Nothing is said or fresh.
func TestNew(t *testing.T) {
	for n := 1; n <= 3; n++ {
		for id := range n {
			none := make([]int64, n)
			h := api.Hard{Term: 4, Vote: 1}
			r, e := raft.New(id, n, h, api.Snap{}, run(0, 1, 4))
			mustBe(t, api.OK, e)
			is(t, r, raft.State{Lead: -1, Hard: h, Last: 2, Next: none, Match: none})
			alike(t, raft.Out{Hard: h}, r.Take())
			alike(t, api.Snap{}, r.Snap())
			has(t, r, one(1, 1), one(2, 4))

			r, e = raft.New(id, n, h, snap(7, 3), run(7, 3))
			mustBe(t, api.OK, e)
			is(t, r, raft.State{Lead: -1, Hard: h, Commit: 7, Base: 7, Last: 8, Next: none, Match: none})
			alike(t, raft.Out{Hard: h}, r.Take())
			alike(t, snap(7, 3), r.Snap())
			has(t, r, one(8, 3))
		}
	}
}

// P12.5: the log's entries from one index to another one, as far as they are there.
func TestEntries(t *testing.T) {
	r := begin(t, 0, 3, 3, snap(5, 1), 1, 2, 3)
	all := run(5, 1, 2, 3)
	for _, c := range []struct {
		from, to int64
		want     []api.Entry
	}{
		{6, 8, all}, {6, 6, all[:1]}, {6, 7, all[:2]}, {7, 7, all[1:2]}, {7, 8, all[1:]}, {8, 8, all[2:]},
		{5, 8, all}, {0, 8, all}, {-3, 7, all[:2]}, {math.MinInt64, 6, all[:1]},
		{6, 9, all}, {8, top, all[2:]}, {7, math.MaxInt64, all[1:]}, {math.MinInt64, math.MaxInt64, all},
		{7, 6, nil}, {8, 5, nil}, {6, 5, nil}, {5, 5, nil}, {1, 4, nil}, {0, 0, nil}, {9, 9, nil}, {9, 8, nil}, {9, 20, nil},
		{math.MaxInt64, math.MinInt64, nil}, {math.MaxInt64, math.MaxInt64, nil}, {math.MinInt64, math.MinInt64, nil},
	} {
		if got := r.Entries(c.from, c.to); fmt.Sprint(got) != fmt.Sprint(c.want) {
			t.Errorf("from %d to %d: %v, want %v", c.from, c.to, got, c.want)
		}
	}
	if got := begin(t, 0, 3, 3, snap(5, 1)).Entries(0, 9); len(got) != 0 {
		t.Errorf("of no entries: %v", got)
	}
}

// P12.5: State at each role: Next and Match have a number for each node, which isn't 0 only of a leader's others.
func TestState(t *testing.T) {
	for n := 2; n <= 3; n++ {
		for id := range n {
			none := make([]int64, n)
			r := begin(t, id, n, 2, snap(1, 1), 1, 2)
			want := raft.State{Lead: -1, Hard: api.Hard{Term: 2, Vote: -1}, Commit: 1, Base: 1, Last: 3, Next: none, Match: none}
			ticks(r, 1)
			want.Woken = 1
			is(t, r, want)
			ticks(r, patience+3*id-1)
			want.Role, want.Woken = poller, 0
			is(t, r, want)
			ticks(r, 1)
			want.Woken = 1
			is(t, r, want)
			step(t, r, rmsg.Msg{Kind: rmsg.Polled, From: next(id, n), To: id, Term: 3, Ok: true})
			want.Role, want.Woken, want.Hard = candidate, 0, api.Hard{Term: 3, Vote: id}
			is(t, r, want)
			ticks(r, 2)
			step(t, r, rmsg.Msg{Kind: rmsg.Voted, From: next(id, n), To: id, Term: 3, Ok: true})
			want.Role, want.Lead, want.Last, want.Next = leader, id, 4, slices.Repeat([]int64{4}, n)
			want.Next[id] = 0
			is(t, r, want)
			step(t, r, rmsg.Msg{Kind: rmsg.Apped, From: next(id, n), To: id, Term: 3, Ok: true, Index: 2})
			want.Match = make([]int64, n)
			want.Match[next(id, n)] = 2
			is(t, r, want)
			step(t, r, rmsg.Msg{Kind: rmsg.Vote, From: next(id, n), To: id, Term: 4})
			want.Role, want.Lead, want.Hard = follower, -1, api.Hard{Term: 4, Vote: -1}
			want.Next, want.Match = none, none
			is(t, r, want)
		}
	}
}

// R1: of a nil node.
func TestNil(t *testing.T) {
	var r *raft.Raft
	r.Tick()
	mustBe(t, api.ErrArg, r.Step(rmsg.Msg{Kind: rmsg.Vote, From: 1, Term: 1}))
	mustBe(t, api.ErrArg, r.Step(rmsg.Msg{}))
	index, term, e := r.Propose(nil)
	alike(t, []any{int64(0), int64(0), api.ErrArg}, []any{index, term, e})
	ctx, e := r.Read()
	alike(t, []any{int64(0), api.ErrArg}, []any{ctx, e})
	mustBe(t, api.ErrArg, r.Compact(1, nil))
	alike(t, raft.Out{}, r.Take())
	alike(t, api.Snap{}, r.Snap())
	alike(t, []api.Entry(nil), r.Entries(0, 9))
	alike(t, raft.State{}, r.State())
}

// The chapter's numbers.
func TestNumbers(t *testing.T) {
	if raft.Beat != beat || raft.Patience != patience {
		t.Error(raft.Beat, raft.Patience)
	}
}

// same tells whether two states are told alike.
func same(a, b raft.State) bool { return fmt.Sprintf("%+v", a) == fmt.Sprintf("%+v", b) }
