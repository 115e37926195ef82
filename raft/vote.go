package raft

import (
	"decamp/api"
	"decamp/quorum"
	"decamp/rmsg"
)

// vote is what a node has said to who polls, or to a candidate.
type vote int

const (
	unsaid vote = iota
	yes
	no
)

// Tick lets time go by: a leader lets others know of it now and then, and others that have waited long enough for one ask for votes.
func (r *Raft) Tick() {
	if r == nil {
		return
	}
	r.woken++
	switch {
	case r.role == leader:
		if r.woken >= Beat {
			r.woken = 0
			r.sendAll()
		}
	case r.woken >= Patience+3*r.id && r.mayLead():
		r.poll()
	}
}

// mayLead tells whether there is a term above its own, and an index above its last one.
func (r *Raft) mayLead() bool {
	return r.hard.Term < api.MaxRev && r.last() < api.MaxRev
}

// poll asks who would vote for the node, if it ran: it doesn't rise to a term in which it can't win.
func (r *Raft) poll() {
	r.stand(poller)
	if r.won() {
		r.run()
		return
	}
	r.canvass(rmsg.Poll, r.hard.Term+1)
}

// run lets the node be a candidate, in a term of its own.
func (r *Raft) run() {
	r.hard = api.Hard{Term: r.hard.Term + 1, Vote: r.id}
	r.stand(candidate)
	if r.won() {
		r.rule()
		return
	}
	r.canvass(rmsg.Vote, r.hard.Term)
}

// stand lets the node have this role, of which no vote is counted yet but its own.
func (r *Raft) stand(role int) {
	r.role, r.lead, r.woken = role, nobody, 0
	r.votes = [api.MaxNodes]vote{}
	r.votes[r.id] = yes
}

// canvass asks all others for their votes.
func (r *Raft) canvass(kind int, term int64) {
	index, logTerm := r.log.Last()
	for to := range r.others {
		r.say(to, rmsg.Msg{Kind: kind, Term: term, Index: index, LogTerm: logTerm})
	}
}

// count counts another node's vote, and lets the node win or fall back, if that decides it.
func (r *Raft) count(from int, v vote, win func()) {
	if r.votes[from] != unsaid {
		return
	}
	r.votes[from] = v
	switch {
	case r.won():
		win()
	case quorum.Lost(r.said(no), r.n):
		r.fallBack(r.hard.Term, nobody)
	}
}

func (r *Raft) won() bool {
	return quorum.Won(r.said(yes), r.n)
}

// said is how many nodes have said so.
func (r *Raft) said(v vote) int {
	many := 0
	for _, w := range r.votes[:r.n] {
		if w == v {
			many++
		}
	}
	return many
}
