package raft_test

import (
	"math"
	"math/rand"
	"testing"

	"decamp/api"
	"decamp/raft"
	"decamp/rmsg"
)

// inRole makes the node 0 of three in a role, of Term 5, with entries of the Terms 2 and 4 (a leader has one more, of Term 5), committed up to 1.
func inRole(t *testing.T, role int) *raft.Raft {
	t.Helper()
	if role == follower || role == poller {
		r := begin(t, 0, 3, 5, snap(1, 2), 4)
		if role == poller {
			wait(r, 0)
			r.Take()
		}
		return r
	}
	r := begin(t, 0, 3, 4, snap(1, 2), 4)
	if role == candidate {
		candidacy(t, r, 0, 3)
		r.Take()
	} else {
		lead(t, r, 0, 3)
	}
	return r
}

// ofKind is one of each Kind that is right, from the node 1 to the node 0, of Term 5, and, of the Kinds that have Ok, not Ok.
func ofKind(kind int) rmsg.Msg {
	m := rmsg.Msg{Kind: kind, From: 1, Term: 5}
	switch kind {
	case rmsg.App:
		m.Index, m.LogTerm, m.Commit, m.Ctx, m.Entries = 2, 4, 2, 9, run(2, 5)
	case rmsg.Poll, rmsg.Vote:
		m.Index, m.LogTerm = 3, 5
	case rmsg.Apped:
		m.Index = 2
	case rmsg.Whole:
		m.Snap = snap(9, 5)
	}
	return m
}

// P12.3: what isn't right, is of a node that there isn't, or goes to another one is ErrArg, and nothing has changed.
func TestStepErrors(t *testing.T) {
	for role := follower; role <= leader; role++ {
		r := inRole(t, role)
		ticks(r, 1)
		r.Take()
		want, log := r.State(), r.Entries(0, top)
		for kind := rmsg.Poll; kind <= rmsg.Whole; kind++ {
			for _, term := range []int64{4, 5, 6, 9} {
				for _, spoil := range []func(m *rmsg.Msg){
					func(m *rmsg.Msg) { m.Kind = 0 },
					func(m *rmsg.Msg) { m.Kind = 8 },
					func(m *rmsg.Msg) { m.Kind = -1 },
					func(m *rmsg.Msg) { m.From = 0 },
					func(m *rmsg.Msg) { m.From = -1 },
					func(m *rmsg.Msg) { m.From = 3 },
					func(m *rmsg.Msg) { m.To = 2 },
					func(m *rmsg.Msg) { m.To = -1 },
					func(m *rmsg.Msg) { m.From, m.To = 2, 1 },
					func(m *rmsg.Msg) { m.Term = 0 },
					func(m *rmsg.Msg) { m.Term = top + 1 },
					func(m *rmsg.Msg) { m.Index = -1 },
					func(m *rmsg.Msg) { m.Ctx = math.MinInt64 },
					func(m *rmsg.Msg) { m.Entries = run(7, 9, 8) },
					func(m *rmsg.Msg) { m.Snap = api.Snap{Index: 1} },
				} {
					m := ofKind(kind)
					m.Term = term
					spoil(&m)
					if e := r.Step(m); e != api.ErrArg {
						t.Fatalf("%+v: %v", m, e)
					}
				}
			}
		}
		is(t, r, want)
		alike(t, log, r.Entries(0, top))
		alike(t, raft.Out{Hard: want.Hard}, r.Take())
	}
}

// P12.3: a From not below n, though such a node may be elsewhere.
func TestStepFrom(t *testing.T) {
	for n := 1; n <= 3; n++ {
		for id := range n {
			r := begin(t, id, n, 5, api.Snap{})
			for from := range 3 {
				for to := range 3 {
					want := api.ErrArg
					if from < n && from != to && to == id {
						want = api.OK
					}
					m := ofKind(rmsg.Vote)
					m.From, m.To = from, to
					if e := r.Step(m); e != want {
						t.Errorf("node %d of %d: from %d to %d: %v, want %v", id, n, from, to, e, want)
					}
				}
			}
		}
	}
}

// P12.3: of an older Term: App and Whole, Poll and Vote are told no, of the node's own Term; of others nothing is said. Nothing else is done, at any role.
func TestStepOlder(t *testing.T) {
	for role := follower; role <= leader; role++ {
		for _, ok := range []bool{false, true} {
			for kind := rmsg.Poll; kind <= rmsg.Whole; kind++ {
				for _, term := range []int64{1, 4} {
					r := inRole(t, role)
					ticks(r, 1)
					want, log := r.State(), r.Entries(0, top)
					m := ofKind(kind)
					m.Term, m.Entries = term, nil
					if kind == rmsg.Polled || kind == rmsg.Voted || kind == rmsg.Apped {
						m.Ok = ok
					}
					step(t, r, m)
					is(t, r, want)
					alike(t, log, r.Entries(0, top))
					answer, told := map[int]int{rmsg.Poll: rmsg.Polled, rmsg.Vote: rmsg.Voted, rmsg.App: rmsg.Apped, rmsg.Whole: rmsg.Apped}[kind]
					if told {
						says(t, r, rmsg.Msg{Kind: answer, To: 1, Term: 5})
					} else {
						says(t, r)
					}
				}
			}
		}
	}
}

// P12.3: of a later Term: the node falls back to it, with the Lead From of App and Whole; but a Poll, and an Ok of a Polled, change nothing but what they do anyway.
func TestStepLater(t *testing.T) {
	for role := follower; role <= leader; role++ {
		for kind := rmsg.Poll; kind <= rmsg.Whole; kind++ {
			for _, ok := range []bool{false, true} {
				for _, term := range []int64{6, 7, top} {
					if ok && kind != rmsg.Polled && kind != rmsg.Voted && kind != rmsg.Apped {
						continue
					}
					r := inRole(t, role)
					ticks(r, 1)
					want := r.State()
					m := ofKind(kind)
					m.Term, m.Ok = term, ok
					step(t, r, m)
					stays := kind == rmsg.Poll || kind == rmsg.Polled && ok
					if !stays {
						none := []int64{0, 0, 0}
						want.Role, want.Lead, want.Woken, want.Hard, want.Next, want.Match = follower, -1, 0, api.Hard{Term: term, Vote: -1}, none, none
					}
					switch {
					case kind == rmsg.Polled && ok && role == poller && term == 6:
						want.Role, want.Lead, want.Woken, want.Hard = candidate, -1, 0, api.Hard{Term: 6}
					case kind == rmsg.Vote:
						// No log of theirs is newer than that one.
						want.Hard.Vote = 1
					case kind == rmsg.App:
						want.Lead, want.Commit, want.Last = 1, 2, 3
					case kind == rmsg.Whole:
						want.Lead, want.Commit, want.Base, want.Last = 1, 9, 9, 9
					}
					is(t, r, want)
				}
			}
		}
	}
}

// P12.3: what falls back to a later Term has no vote left, whomever it was for; in its own Term the vote stays.
func TestStepVoteKept(t *testing.T) {
	for _, vote := range []int{-1, 0, 1, 2} {
		r, e := raft.New(0, 3, api.Hard{Term: 5, Vote: vote}, api.Snap{}, run(0, 5))
		mustBe(t, api.OK, e)
		step(t, r, rmsg.Msg{Kind: rmsg.App, From: 2, Term: 5})
		if h := r.State().Hard; h != (api.Hard{Term: 5, Vote: vote}) {
			t.Error("of its own Term", vote, h)
		}
		step(t, r, rmsg.Msg{Kind: rmsg.App, From: 2, Term: 6})
		if h := r.State().Hard; h != (api.Hard{Term: 6, Vote: -1}) {
			t.Error("of a later Term", vote, h)
		}
	}
}

// R1: whatever a node hears, from its beginning on, that is right, and whatever else is done to it: no call panics, what it says is right, and it goes on.
func TestAnything(t *testing.T) {
	for seed := range int64(400) {
		c := chance{rand.New(rand.NewSource(seed)), &model{}}
		id, n, h, s, l := c.begin()
		r, e := raft.New(id, n, h, s, l)
		mustBe(t, api.OK, e)
		number := func() int64 {
			return []int64{0, 1, 2, 3, top, top - 1, r.State().Last, r.State().Last + 1, r.State().Commit, r.State().Base}[c.Intn(10)]
		}
		for range 150 {
			m := rmsg.Msg{Kind: c.Intn(8), From: c.Intn(3), To: id, Term: r.State().Hard.Term + int64(c.Intn(3)), Ok: c.Intn(2) == 0}
			switch m.Kind {
			case rmsg.Poll, rmsg.Vote:
				m.Ok, m.Index, m.LogTerm = false, number(), number()
			case rmsg.App:
				m.Ok, m.Index, m.LogTerm, m.Commit, m.Ctx = false, number(), number(), number(), number()
				m.Entries = run(m.Index, []int64{m.LogTerm, m.Term, m.Term}[:c.Intn(4)]...)
			case rmsg.Apped:
				m.Index, m.Ctx = number(), number()
			case rmsg.Whole:
				m.Ok, m.Snap = false, snap(number(), number())
			}
			want := api.ErrArg
			if rmsg.Right(m) && m.From < n {
				want = api.OK
			}
			mustBe(t, want, r.Step(m))
			ticks(r, c.Intn(3))
			r.Propose(c.data())
			r.Read()
			r.Compact(number(), c.data())
			if got := r.State(); got.Base > got.Commit || got.Commit > got.Last || got.Base != r.Snap().Index || int64(len(r.Entries(0, top))) != got.Last-got.Base {
				t.Fatalf("seed %d: %+v", seed, got)
			}
			for _, x := range r.Take().Msgs {
				if !rmsg.Right(x) || x.From != id || x.To >= n {
					t.Fatalf("seed %d: %+v isn't right", seed, x)
				}
			}
		}
	}
}
