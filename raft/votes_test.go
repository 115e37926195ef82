package raft_test

import (
	"testing"

	"decamp/api"
	"decamp/raft"
	"decamp/rmsg"
)

// lasts are Last indexes and terms of another log, held against one whose Last are 3 and 4.
var lasts = []struct {
	index, term int64
	newer       bool
}{
	{3, 4, true}, {4, 4, true}, {top, 4, true}, {0, 5, true}, {1, 5, true}, {3, 5, true},
	{2, 4, false}, {0, 4, false}, {3, 3, false}, {9, 3, false}, {top, 3, false}, {0, 0, false},
}

// P12.3, Poll: granted by a node without a Lead, at each role, if its own log may be followed by that one; nothing changes by it.
func TestPollLog(t *testing.T) {
	for _, c := range lasts {
		r := begin(t, 0, 3, 5, snap(2, 4), 4)
		want := r.State()
		step(t, r, rmsg.Msg{Kind: rmsg.Poll, From: 2, Term: 6, Index: c.index, LogTerm: c.term})
		answer := rmsg.Msg{Kind: rmsg.Polled, To: 2, Term: 5}
		if c.newer {
			answer.Term, answer.Ok = 6, true
		}
		says(t, r, answer)
		is(t, r, want)
	}
}

// P12.3, Poll: granted of any Term above its own, and of no other one.
func TestPollTerm(t *testing.T) {
	for _, term := range []int64{1, 4, 5, 6, 7, 100, top} {
		r := begin(t, 0, 3, 5, api.Snap{}, 4)
		want := r.State()
		step(t, r, rmsg.Msg{Kind: rmsg.Poll, From: 1, Term: term, Index: 1, LogTerm: 4})
		if term > 5 {
			says(t, r, rmsg.Msg{Kind: rmsg.Polled, To: 1, Term: term, Ok: true})
		} else {
			says(t, r, rmsg.Msg{Kind: rmsg.Polled, To: 1, Term: 5})
		}
		is(t, r, want)
	}
}

// P12.3, Poll: granted again and again, to anyone, whomever it voted for: it is no vote.
func TestPollMany(t *testing.T) {
	r, e := raft.New(0, 3, api.Hard{Term: 5, Vote: 2}, api.Snap{}, nil)
	mustBe(t, api.OK, e)
	want := r.State()
	for _, from := range []int{1, 2, 1, 1} {
		step(t, r, rmsg.Msg{Kind: rmsg.Poll, From: from, Term: 6})
		says(t, r, rmsg.Msg{Kind: rmsg.Polled, To: from, Term: 6, Ok: true})
	}
	is(t, r, want)
}

// P12.3, Poll: with a Lead it is granted if the node was woken Patience ticks ago or more, not one fewer: so it goes by Patience, not by how long this node itself waits.
func TestPollLead(t *testing.T) {
	for woken := range patience + 3 {
		r := begin(t, 2, 3, 5, api.Snap{}, 4)
		step(t, r, rmsg.Msg{Kind: rmsg.App, From: 1, To: 2, Term: 5})
		r.Take()
		ticks(r, woken)
		want := r.State()
		if want.Lead != 1 || want.Woken != woken {
			t.Fatal(want)
		}
		step(t, r, rmsg.Msg{Kind: rmsg.Poll, From: 0, To: 2, Term: 6, Index: 1, LogTerm: 4})
		if woken >= patience {
			says(t, r, rmsg.Msg{Kind: rmsg.Polled, From: 2, To: 0, Term: 6, Ok: true})
		} else {
			says(t, r, rmsg.Msg{Kind: rmsg.Polled, From: 2, To: 0, Term: 5})
		}
		is(t, r, want)
	}
}

// P12.3, Poll: with a Lead, even after long, not if the log isn't newer.
func TestPollLeadLog(t *testing.T) {
	r := begin(t, 2, 3, 5, api.Snap{}, 4)
	step(t, r, rmsg.Msg{Kind: rmsg.App, From: 1, To: 2, Term: 5})
	r.Take()
	ticks(r, patience+1)
	step(t, r, rmsg.Msg{Kind: rmsg.Poll, From: 0, To: 2, Term: 6, Index: 0, LogTerm: 4})
	says(t, r, rmsg.Msg{Kind: rmsg.Polled, From: 2, To: 0, Term: 5})
}

// P12.3, Poll: at each role; a leader never grants it, others without a Lead do.
func TestPollRole(t *testing.T) {
	for role := follower; role <= leader; role++ {
		r := inRole(t, role)
		want := r.State()
		step(t, r, rmsg.Msg{Kind: rmsg.Poll, From: 2, Term: 6, Index: 9, LogTerm: 5})
		if role == leader {
			says(t, r, rmsg.Msg{Kind: rmsg.Polled, To: 2, Term: 5})
		} else {
			says(t, r, rmsg.Msg{Kind: rmsg.Polled, To: 2, Term: 6, Ok: true})
		}
		is(t, r, want)
	}
}

// P12.3, Polled: a yes is one that is Ok of the Term above the node's own, a no one that isn't of its own; all else is nothing.
func TestPolled(t *testing.T) {
	yes := func(from int, term int64) rmsg.Msg {
		return rmsg.Msg{Kind: rmsg.Polled, From: from, Term: term, Ok: true}
	}
	no := func(from int, term int64) rmsg.Msg { return rmsg.Msg{Kind: rmsg.Polled, From: from, Term: term} }
	for name, c := range map[string]struct {
		n    int
		l    []rmsg.Msg
		role int
		term int64
	}{
		"a yes of two":                     {2, []rmsg.Msg{yes(1, 6)}, candidate, 6},
		"a no of two":                      {2, []rmsg.Msg{no(1, 5)}, follower, 5},
		"a yes of three":                   {3, []rmsg.Msg{yes(1, 6)}, candidate, 6},
		"another one's yes":                {3, []rmsg.Msg{yes(2, 6)}, candidate, 6},
		"a no of three":                    {3, []rmsg.Msg{no(1, 5)}, poller, 5},
		"two noes":                         {3, []rmsg.Msg{no(1, 5), no(2, 5)}, follower, 5},
		"a no twice":                       {3, []rmsg.Msg{no(1, 5), no(1, 5)}, poller, 5},
		"a no, and its yes":                {3, []rmsg.Msg{no(1, 5), yes(1, 6)}, poller, 5},
		"a no, and another one's yes":      {3, []rmsg.Msg{no(1, 5), yes(2, 6)}, candidate, 6},
		"a no, its yes, and another no":    {3, []rmsg.Msg{no(1, 5), yes(1, 6), no(2, 5)}, follower, 5},
		"Ok of its own Term":               {3, []rmsg.Msg{yes(1, 5), yes(2, 5)}, poller, 5},
		"Ok of its own Term, then a yes":   {3, []rmsg.Msg{yes(1, 5), yes(1, 6)}, candidate, 6},
		"Ok of two Terms above":            {3, []rmsg.Msg{yes(1, 7), yes(2, 7)}, poller, 5},
		"Ok of two above, then a yes":      {3, []rmsg.Msg{yes(1, 7), yes(1, 6)}, candidate, 6},
		"Ok of two above, then a no":       {3, []rmsg.Msg{yes(1, 7), no(1, 5), no(2, 5)}, follower, 5},
		"Ok of the highest Term":           {3, []rmsg.Msg{yes(1, top)}, poller, 5},
		"Ok of an older Term":              {3, []rmsg.Msg{yes(1, 4), yes(2, 4)}, poller, 5},
		"noes of an older Term":            {3, []rmsg.Msg{no(1, 4), no(2, 4)}, poller, 5},
		"a no of a later Term":             {3, []rmsg.Msg{no(1, 8)}, follower, 8},
		"a yes, and one to its older Term": {3, []rmsg.Msg{yes(1, 6), yes(2, 6)}, candidate, 6},
	} {
		r := begin(t, 0, c.n, 5, api.Snap{}, 4)
		wait(r, 0)
		r.Take()
		ticks(r, 1)
		want := r.State()
		step(t, r, c.l...)
		want.Role = c.role
		if c.role != poller {
			want.Woken = 0
		}
		switch {
		case c.role == candidate:
			want.Hard = api.Hard{Term: c.term}
		case c.term > 5:
			want.Hard = api.Hard{Term: c.term, Vote: -1}
		}
		if got := r.State(); !same(got, want) {
			t.Errorf("%s: %+v, want %+v", name, got, want)
		}
		if c.role == candidate {
			says(t, r, toOthers(0, c.n, rmsg.Msg{Kind: rmsg.Vote, Term: 6, Index: 1, LogTerm: 4})...)
		} else {
			says(t, r)
		}
	}
}

// P12.3, Polled, Voted: of who doesn't poll, or isn't candidate, they are nothing.
func TestVotesUnasked(t *testing.T) {
	for role := follower; role <= leader; role++ {
		for _, kind := range []int{rmsg.Polled, rmsg.Voted} {
			if kind == rmsg.Polled && role == poller || kind == rmsg.Voted && role == candidate {
				continue
			}
			r := inRole(t, role)
			ticks(r, 1)
			want := r.State()
			for _, from := range []int{1, 2} {
				step(t, r, rmsg.Msg{Kind: kind, From: from, Term: 5}, rmsg.Msg{Kind: kind, From: from, Term: 5, Ok: true})
				if kind == rmsg.Polled {
					step(t, r, rmsg.Msg{Kind: kind, From: from, Term: 6, Ok: true})
				}
			}
			is(t, r, want)
			says(t, r)
		}
	}
}

// P12.3, Vote: granted, if the log is newer, by who voted for nobody, or for From; it voted for From then, and is woken.
func TestVote(t *testing.T) {
	for _, c := range lasts {
		for _, vote := range []int{-1, 0, 1, 2} {
			for from := 1; from <= 2; from++ {
				r, e := raft.New(0, 3, api.Hard{Term: 5, Vote: vote}, snap(2, 4), run(2, 4))
				mustBe(t, api.OK, e)
				ticks(r, 3)
				want := r.State()
				ok := c.newer && (vote == -1 || vote == from)
				m := rmsg.Msg{Kind: rmsg.Vote, From: from, Term: 5, Index: c.index, LogTerm: c.term}
				step(t, r, m)
				says(t, r, rmsg.Msg{Kind: rmsg.Voted, To: from, Term: 5, Ok: ok})
				if ok {
					want.Hard.Vote, want.Woken = from, 0
				}
				is(t, r, want)

				// Asked again, it says the same again; another one is told no by who has voted.
				step(t, r, m)
				says(t, r, rmsg.Msg{Kind: rmsg.Voted, To: from, Term: 5, Ok: ok})
				is(t, r, want)
				if ok {
					m.From = 3 - from
					step(t, r, m)
					says(t, r, rmsg.Msg{Kind: rmsg.Voted, To: m.From, Term: 5})
					is(t, r, want)
				}
			}
		}
	}
}

// P12.3, Vote: of a later Term: the node falls back to it, and votes in it, whomever it voted for ahead of it; not for a log that isn't newer.
func TestVoteLater(t *testing.T) {
	for _, c := range lasts {
		for _, vote := range []int{-1, 0, 1, 2} {
			r, e := raft.New(0, 3, api.Hard{Term: 5, Vote: vote}, snap(2, 4), run(2, 4))
			mustBe(t, api.OK, e)
			ticks(r, 3)
			want := r.State()
			step(t, r, rmsg.Msg{Kind: rmsg.Vote, From: 1, Term: 8, Index: c.index, LogTerm: c.term})
			says(t, r, rmsg.Msg{Kind: rmsg.Voted, To: 1, Term: 8, Ok: c.newer})
			want.Woken, want.Hard = 0, api.Hard{Term: 8, Vote: -1}
			if c.newer {
				want.Hard.Vote = 1
			}
			is(t, r, want)
		}
	}
}

// P12.3, Vote: who has a Lead votes none the less, and has that Lead still; who polls does, and polls still; a candidate, and a leader, have their own vote.
func TestVoteRole(t *testing.T) {
	r := begin(t, 0, 3, 5, api.Snap{})
	step(t, r, rmsg.Msg{Kind: rmsg.App, From: 1, Term: 5})
	r.Take()
	ticks(r, 2)
	want := r.State()
	step(t, r, rmsg.Msg{Kind: rmsg.Vote, From: 2, Term: 5})
	says(t, r, rmsg.Msg{Kind: rmsg.Voted, To: 2, Term: 5, Ok: true})
	want.Hard.Vote, want.Woken = 2, 0
	is(t, r, want)

	for role := poller; role <= leader; role++ {
		r := inRole(t, role)
		ticks(r, 1)
		want := r.State()
		step(t, r, rmsg.Msg{Kind: rmsg.Vote, From: 2, Term: 5, Index: 9, LogTerm: 5})
		says(t, r, rmsg.Msg{Kind: rmsg.Voted, To: 2, Term: 5, Ok: role == poller})
		if role == poller {
			want.Hard.Vote, want.Woken = 2, 0
		}
		is(t, r, want)
		if role == poller {
			// Its poll goes on.
			step(t, r, rmsg.Msg{Kind: rmsg.Polled, From: 1, Term: 6, Ok: true})
			want.Role, want.Hard = candidate, api.Hard{Term: 6}
			is(t, r, want)
		}
	}
}

// P12.3, Voted: yeses and noes of the node's own Term; who said one says no other one; won, it leads, lost, it falls back.
func TestVoted(t *testing.T) {
	yes := func(from int) rmsg.Msg { return rmsg.Msg{Kind: rmsg.Voted, From: from, Term: 6, Ok: true} }
	no := func(from int) rmsg.Msg { return rmsg.Msg{Kind: rmsg.Voted, From: from, Term: 6} }
	of := func(term int64, m rmsg.Msg) rmsg.Msg {
		m.Term = term
		return m
	}
	for name, c := range map[string]struct {
		n    int
		l    []rmsg.Msg
		role int
		term int64
	}{
		"a yes of two":                     {2, []rmsg.Msg{yes(1)}, leader, 6},
		"a no of two":                      {2, []rmsg.Msg{no(1)}, follower, 6},
		"a yes of three":                   {3, []rmsg.Msg{yes(2)}, leader, 6},
		"a no of three":                    {3, []rmsg.Msg{no(2)}, candidate, 6},
		"two noes":                         {3, []rmsg.Msg{no(2), no(1)}, follower, 6},
		"a no twice":                       {3, []rmsg.Msg{no(2), no(2)}, candidate, 6},
		"a no, and its yes":                {3, []rmsg.Msg{no(2), yes(2)}, candidate, 6},
		"a no, and another one's yes":      {3, []rmsg.Msg{no(2), yes(1)}, leader, 6},
		"a no, its yes, and another no":    {3, []rmsg.Msg{no(2), yes(2), no(1)}, follower, 6},
		"a yes of an older Term":           {3, []rmsg.Msg{of(5, yes(1))}, candidate, 6},
		"noes of an older Term":            {3, []rmsg.Msg{of(5, no(1)), of(5, no(2))}, candidate, 6},
		"a yes of a later Term":            {3, []rmsg.Msg{of(7, yes(1))}, follower, 7},
		"a no of a later Term":             {3, []rmsg.Msg{of(7, no(1))}, follower, 7},
		"a Polled that isn't Ok":           {3, []rmsg.Msg{{Kind: rmsg.Polled, From: 1, Term: 6}, no(2)}, candidate, 6},
		"a Polled that is Ok":              {3, []rmsg.Msg{{Kind: rmsg.Polled, From: 1, Term: 6, Ok: true}}, candidate, 6},
		"a Polled of the Term above is Ok": {3, []rmsg.Msg{{Kind: rmsg.Polled, From: 1, Term: 7, Ok: true}}, candidate, 6},
	} {
		r := begin(t, 0, c.n, 5, snap(1, 2), 4)
		candidacy(t, r, 0, c.n)
		r.Take()
		ticks(r, 1)
		want := r.State()
		step(t, r, c.l...)
		want.Role = c.role
		if c.role != candidate {
			want.Woken = 0
		}
		if c.term > 6 {
			want.Hard = api.Hard{Term: c.term, Vote: -1}
		}
		if c.role != leader {
			if got := r.State(); !same(got, want) {
				t.Errorf("%s: %+v, want %+v", name, got, want)
			}
			says(t, r)
			continue
		}
		want.Lead, want.Last = 0, 3
		for to := 1; to < c.n; to++ {
			want.Next[to] = 3
		}
		if got := r.State(); !same(got, want) {
			t.Errorf("%s: %+v, want %+v", name, got, want)
		}
		entry := api.Entry{Index: 3, Term: 6}
		out := raft.Out{
			Hard:  api.Hard{Term: 6},
			Fresh: []api.Entry{entry},
			Msgs:  toOthers(0, c.n, rmsg.Msg{Kind: rmsg.App, Term: 6, Index: 2, LogTerm: 4, Entries: []api.Entry{entry}, Commit: 1}),
		}
		alike(t, out, r.Take())
	}
}

// P12.3: who was refused may poll again, and win.
func TestLostThenWon(t *testing.T) {
	r := begin(t, 0, 2, 5, api.Snap{})
	candidacy(t, r, 0, 2)
	step(t, r, rmsg.Msg{Kind: rmsg.Voted, From: 1, Term: 6})
	ticks(r, patience-1)
	if s := r.State(); s.Role != follower || s.Woken != patience-1 {
		t.Fatal(s)
	}
	ticks(r, 1)
	step(t, r, rmsg.Msg{Kind: rmsg.Polled, From: 1, Term: 7, Ok: true}, rmsg.Msg{Kind: rmsg.Voted, From: 1, Term: 7, Ok: true})
	if s := r.State(); s.Role != leader || s.Hard.Term != 7 {
		t.Fatal(s)
	}
}
