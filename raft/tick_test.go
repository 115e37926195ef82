package raft_test

import (
	"testing"

	"decamp/api"
	"decamp/raft"
	"decamp/rmsg"
)

// toOthers are what a node says to all others: the message, with whom it goes to.
func toOthers(id, n int, m rmsg.Msg) []rmsg.Msg {
	var l []rmsg.Msg
	for to := range n {
		if to != id {
			m.From, m.To = id, to
			l = append(l, m)
		}
	}
	return l
}

// P12.2: who leads is woken at Beat ticks, not at one fewer, and sends to all others then, again and again.
func TestTickLeader(t *testing.T) {
	for n := 1; n <= 3; n++ {
		for id := range n {
			r := begin(t, id, n, 2, snap(1, 1), 2)
			lead(t, r, id, n)
			beatOf := toOthers(id, n, rmsg.Msg{Kind: rmsg.App, Term: 3, Index: 2, LogTerm: 2, Entries: []api.Entry{{Index: 3, Term: 3}}, Commit: 1})
			want := r.State()
			for range 20 {
				ticks(r, beat-1)
				want.Woken = beat - 1
				is(t, r, want)
				says(t, r)
				ticks(r, 1)
				want.Woken = 0
				is(t, r, want)
				says(t, r, beatOf...)
			}
		}
	}
}

// P12.2: another one polls at Patience and three times its id ticks, not at one fewer: what it says, to whom, of which Term.
func TestTickFollower(t *testing.T) {
	for n := 2; n <= 3; n++ {
		for id := range n {
			for _, vote := range []int{-1, 0, 2} {
				r, e := raft.New(id, n, api.Hard{Term: 5, Vote: vote}, snap(3, 2), run(3, 2, 4))
				mustBe(t, api.OK, e)
				want := r.State()
				for range 3 {
					ticks(r, patience+3*id-1)
					want.Woken = patience + 3*id - 1
					is(t, r, want)
					says(t, r)
					ticks(r, 1)
					want.Woken, want.Role = 0, poller
					is(t, r, want)
					says(t, r, toOthers(id, n, rmsg.Msg{Kind: rmsg.Poll, Term: 6, Index: 5, LogTerm: 4})...)
				}
			}
		}
	}
}

// P12.2: without entries, what it polls with is the snap's; without a snap, 0.
func TestTickLast(t *testing.T) {
	r := begin(t, 0, 2, 5, snap(3, 2))
	wait(r, 0)
	says(t, r, rmsg.Msg{Kind: rmsg.Poll, To: 1, Term: 6, Index: 3, LogTerm: 2})
	r = begin(t, 0, 2, 0, api.Snap{})
	wait(r, 0)
	says(t, r, rmsg.Msg{Kind: rmsg.Poll, To: 1, Term: 1})
}

// P12.2: a Lead is given up when it polls, and a candidate polls again, with what it has voted for kept.
func TestTickAgain(t *testing.T) {
	r := begin(t, 1, 3, 5, api.Snap{}, 4)
	step(t, r, rmsg.Msg{Kind: rmsg.App, From: 2, To: 1, Term: 5})
	says(t, r, rmsg.Msg{Kind: rmsg.Apped, From: 1, To: 2, Term: 5, Ok: true})
	want := r.State()
	ticks(r, patience+3-1)
	want.Woken = patience + 3 - 1
	is(t, r, want)
	if want.Lead != 2 {
		t.Fatal(want)
	}
	ticks(r, 1)
	want.Woken, want.Role, want.Lead = 0, poller, -1
	is(t, r, want)
	says(t, r, toOthers(1, 3, rmsg.Msg{Kind: rmsg.Poll, Term: 6, Index: 1, LogTerm: 4})...)

	step(t, r, rmsg.Msg{Kind: rmsg.Polled, From: 0, To: 1, Term: 6, Ok: true})
	says(t, r, toOthers(1, 3, rmsg.Msg{Kind: rmsg.Vote, Term: 6, Index: 1, LogTerm: 4})...)
	want.Role, want.Hard = candidate, api.Hard{Term: 6, Vote: 1}
	is(t, r, want)
	ticks(r, patience+3-1)
	want.Woken = patience + 3 - 1
	is(t, r, want)
	says(t, r)
	ticks(r, 1)
	want.Woken, want.Role = 0, poller
	is(t, r, want)
	says(t, r, toOthers(1, 3, rmsg.Msg{Kind: rmsg.Poll, Term: 7, Index: 1, LogTerm: 4})...)
}

// P12.2: whoever polls anew, or runs, counts only its own yes: what was said before is gone.
func TestTickVotesAnew(t *testing.T) {
	yes := rmsg.Msg{Kind: rmsg.Polled, From: 0, To: 1, Term: 6, Ok: true}
	no := func(from int, term int64) rmsg.Msg { return rmsg.Msg{Kind: rmsg.Polled, From: from, To: 1, Term: term} }

	// A no of the poll ahead of this one isn't counted with another one's.
	r := begin(t, 1, 3, 5, api.Snap{})
	wait(r, 1)
	step(t, r, no(2, 5))
	wait(r, 1)
	step(t, r, no(0, 5))
	if s := r.State(); s.Role != poller {
		t.Fatal("two noes of two polls", s)
	}
	step(t, r, no(2, 5))
	if s := r.State(); s.Role != follower {
		t.Fatal("two noes of one poll", s)
	}

	// The yes to the poll is no vote, and the no of a candidate's none to its next poll.
	r = begin(t, 1, 3, 5, api.Snap{})
	wait(r, 1)
	step(t, r, no(2, 5), yes)
	if s := r.State(); s.Role != candidate {
		t.Fatal("a no and a yes", s)
	}
	voted := rmsg.Msg{Kind: rmsg.Voted, From: 2, To: 1, Term: 6}
	step(t, r, voted)
	if s := r.State(); s.Role != candidate {
		t.Fatal("a no to the poll, and one to the candidate, of one node", s)
	}
	wait(r, 1)
	step(t, r, no(0, 6))
	if s := r.State(); s.Role != poller {
		t.Fatal("a no to the candidate, and one to the poll", s)
	}
	yes.Term = 7
	yes.From = 2
	step(t, r, yes)
	if s := r.State(); s.Role != candidate || s.Hard.Term != 7 {
		t.Fatal("who said no to the candidate says yes to the poll", s)
	}
}

// P12.2: the one node of one leads at once, in the next Term, with an entry that is committed.
func TestTickAlone(t *testing.T) {
	r := begin(t, 0, 1, 0, api.Snap{})
	ticks(r, patience-1)
	is(t, r, raft.State{Lead: -1, Woken: patience - 1, Hard: api.Hard{Vote: -1}, Next: []int64{0}, Match: []int64{0}})
	ticks(r, 1)
	want := raft.State{Role: leader, Hard: api.Hard{Term: 1}, Commit: 1, Last: 1, Next: []int64{0}, Match: []int64{0}}
	is(t, r, want)
	alike(t, raft.Out{Hard: api.Hard{Term: 1}, Fresh: []api.Entry{{Index: 1, Term: 1}}}, r.Take())

	r = begin(t, 0, 1, 7, snap(4, 2), 3, 7)
	wait(r, 0)
	want = raft.State{Role: leader, Hard: api.Hard{Term: 8}, Commit: 7, Base: 4, Last: 7, Next: []int64{0}, Match: []int64{0}}
	is(t, r, want)
	alike(t, raft.Out{Hard: api.Hard{Term: 8}, Fresh: []api.Entry{{Index: 7, Term: 8}}}, r.Take())
}

// P12.2: at the highest Term, and at the last index, nobody polls, however long it waits; one below them it does.
func TestTickTop(t *testing.T) {
	for n := 1; n <= 3; n++ {
		for name, r := range map[string]*raft.Raft{
			"the highest term":             begin(t, 0, n, top, snap(4, 2), 3),
			"the last index, of an entry":  begin(t, 0, n, 5, snap(top-1, 2), 3),
			"the last index, of the snap":  begin(t, 0, n, 5, snap(top, 2)),
			"the highest, and the last of": begin(t, 0, n, top, snap(top, top)),
		} {
			want := r.State()
			for range 50 {
				r.Tick()
				want.Woken++
				is(t, r, want)
			}
			if l := r.Take().Msgs; len(l) > 0 {
				t.Errorf("%s: %+v", name, l)
			}
		}

		r := begin(t, 0, n, top-1, snap(top-2, 2), 3)
		wait(r, 0)
		if n == 1 {
			is(t, r, raft.State{Role: leader, Hard: api.Hard{Term: top}, Commit: top, Base: top - 2, Last: top, Next: []int64{0}, Match: []int64{0}})
			continue
		}
		says(t, r, toOthers(0, n, rmsg.Msg{Kind: rmsg.Poll, Term: top, Index: top - 1, LogTerm: 3})...)
		step(t, r, rmsg.Msg{Kind: rmsg.Polled, From: 1, Term: top, Ok: true})
		says(t, r, toOthers(0, n, rmsg.Msg{Kind: rmsg.Vote, Term: top, Index: top - 1, LogTerm: 3})...)
		step(t, r, rmsg.Msg{Kind: rmsg.Voted, From: 1, Term: top, Ok: true})
		says(t, r, toOthers(0, n, rmsg.Msg{Kind: rmsg.App, Term: top, Index: top - 1, LogTerm: 3, Entries: []api.Entry{{Index: top, Term: top}}, Commit: top - 2})...)
		step(t, r, rmsg.Msg{Kind: rmsg.Apped, From: 1, Term: top, Ok: true, Index: top})
		if s := r.State(); s.Commit != top || s.Next[1] != top+1 {
			t.Fatal(s)
		}
		r.Take()
		ticks(r, beat)
		if m := r.Take().Msgs[0]; m.Index != top || m.LogTerm != top || len(m.Entries) != 0 {
			t.Fatal("behind the last index", m)
		}
	}
}
