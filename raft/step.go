package raft

import (
	"decamp/api"
	"decamp/rmsg"
)

// Step takes what another node said.
func (r *Raft) Step(m rmsg.Msg) api.Errno {
	if r == nil || !rmsg.Right(m) || m.From >= r.n || m.To != r.id {
		return api.ErrArg
	}
	if m.Term < r.hard.Term {
		r.correct(m)
		return api.OK
	}
	// Who polls hasn't risen to the term that it asks about.
	if m.Term > r.hard.Term && m.Kind != rmsg.Poll && !(m.Kind == rmsg.Polled && m.Ok) {
		r.fallBack(m.Term, nobody)
	}
	r.hear(m)
	return api.OK
}

// correct lets who said something of an older term know of the node's own.
func (r *Raft) correct(m rmsg.Msg) {
	switch m.Kind {
	case rmsg.Poll:
		r.say(m.From, rmsg.Msg{Kind: rmsg.Polled})
	case rmsg.Vote:
		r.say(m.From, rmsg.Msg{Kind: rmsg.Voted})
	case rmsg.App, rmsg.Whole:
		r.say(m.From, rmsg.Msg{Kind: rmsg.Apped})
	}
}

// hear takes what isn't of an older term.
func (r *Raft) hear(m rmsg.Msg) {
	switch m.Kind {
	case rmsg.Poll:
		r.hearPoll(m)
	case rmsg.Polled:
		r.hearPolled(m)
	case rmsg.Vote:
		r.hearVote(m)
	case rmsg.Voted:
		r.hearVoted(m)
	case rmsg.App:
		r.hearApp(m)
	case rmsg.Apped:
		r.hearApped(m)
	case rmsg.Whole:
		r.hearWhole(m)
	}
}

// hearPoll answers whether the node would vote for who polls. Nothing of it changes by that.
func (r *Raft) hearPoll(m rmsg.Msg) {
	if m.Term > r.hard.Term && r.log.Newer(m.Index, m.LogTerm) && r.leaderless() {
		r.say(m.From, rmsg.Msg{Kind: rmsg.Polled, Term: m.Term, Ok: true})
		return
	}
	r.say(m.From, rmsg.Msg{Kind: rmsg.Polled})
}

// leaderless tells whether the node knows of no leader, or has heard of none for long.
func (r *Raft) leaderless() bool {
	return r.lead == nobody || r.role != leader && r.woken >= Patience
}

func (r *Raft) hearPolled(m rmsg.Msg) {
	if r.role != poller {
		return
	}
	switch {
	case !m.Ok:
		r.count(m.From, no, r.run)
	// A yes to what was asked in an older term is none to this one.
	case m.Term == r.hard.Term+1:
		r.count(m.From, yes, r.run)
	}
}

// hearVote votes, if the node's vote in this Term isn't another one's.
func (r *Raft) hearVote(m rmsg.Msg) {
	free := r.hard.Vote == nobody || r.hard.Vote == m.From
	grant := free && r.log.Newer(m.Index, m.LogTerm)
	if grant {
		r.hard.Vote, r.woken = m.From, 0
	}
	r.say(m.From, rmsg.Msg{Kind: rmsg.Voted, Ok: grant})
}

func (r *Raft) hearVoted(m rmsg.Msg) {
	if r.role != candidate {
		return
	}
	v := no
	if m.Ok {
		v = yes
	}
	r.count(m.From, v, r.rule)
}

// hearApp takes a leader's entries.
func (r *Raft) hearApp(m rmsg.Msg) {
	if r.role == leader {
		return
	}
	r.fallBack(r.hard.Term, m.From)
	// What is committed is the leader's as well: it needn't be held against its entries, some of which may be gone here.
	index, ok := r.commit, true
	if m.Index >= r.commit {
		index, ok = r.log.Take(m.Index, m.LogTerm, m.Entries)
	}
	if ok {
		r.commit = max(r.commit, min(m.Commit, index))
	}
	r.say(m.From, rmsg.Msg{Kind: rmsg.Apped, Ok: ok, Index: index, Ctx: m.Ctx})
}

// hearWhole takes a leader's snap, if it is of more than is committed here.
func (r *Raft) hearWhole(m rmsg.Msg) {
	if r.role == leader {
		return
	}
	r.fallBack(r.hard.Term, m.From)
	if m.Snap.Index > r.commit {
		r.restore(m.Snap)
	}
	r.say(m.From, rmsg.Msg{Kind: rmsg.Apped, Ok: true, Index: r.commit})
}

// restore lets all up to a snap be committed; where the log hasn't just that entry, the snap stands for all of it.
func (r *Raft) restore(s api.Snap) {
	if term, ok := r.log.Term(s.Index); !ok || term != s.Term {
		r.log.Reset(s.Index, s.Term)
		r.snap, r.keep = copied(s), true
	}
	r.commit = s.Index
}
