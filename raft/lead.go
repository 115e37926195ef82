package raft

import (
	"decamp/api"
	"decamp/quorum"
	"decamp/rmsg"
)

// peer is what a leader has of another node: the index that it sends next, that up to which the other one has its log, and the greatest Ctx that came back.
type peer struct{ next, match, ctx int64 }

// Propose adds an entry to a leader's log: its index and term.
func (r *Raft) Propose(data []byte) (int64, int64, api.Errno) {
	switch {
	case r == nil:
		return 0, 0, api.ErrArg
	case r.role != leader:
		return 0, 0, api.ErrAway
	case len(data) > api.MaxData:
		return 0, 0, api.ErrArg
	case r.last() == api.MaxRev:
		return 0, 0, api.ErrFull
	}
	x, e := r.log.Add(r.hard.Term, data)
	if e != api.OK {
		return 0, 0, e
	}
	r.advance()
	r.sendAll()
	return x.Index, x.Term, api.OK
}

// Read asks of all that is committed by now: the number by which Take tells it, once more than half still follow.
func (r *Raft) Read() (int64, api.Errno) {
	switch {
	case r == nil:
		return 0, api.ErrArg
	case r.role != leader:
		return 0, api.ErrAway
	// Till then entries of older terms may be committed that the node doesn't know of.
	case !r.own(r.commit):
		return 0, api.ErrBusy
	}
	r.ctx++
	r.reads = append(r.reads, Read{Ctx: r.ctx, Index: r.commit})
	// The one node of one is more than half at once.
	r.tell()
	r.sendAll()
	return r.ctx, api.OK
}

// rule lets the node lead.
func (r *Raft) rule() {
	r.role, r.lead, r.woken = leader, r.id, 0
	// Its Ctx is 0, and there are no reads: whoever led before fell back since.
	for to := range r.others {
		r.peers[to] = peer{next: r.last() + 1}
	}
	// An entry of its own term: with it, those of older terms that stand ahead are committed.
	r.log.Add(r.hard.Term, nil)
	r.advance()
	r.sendAll()
}

// sendAll sends to all others.
func (r *Raft) sendAll() {
	for to := range r.others {
		r.send(to)
	}
}

// send sends what another node is to have next: entries, or the snap that stands for them.
func (r *Raft) send(to int) {
	next := r.peers[to].next
	if base, _ := r.log.Base(); next <= base {
		r.say(to, rmsg.Msg{Kind: rmsg.Whole, Snap: copied(r.snap)})
		return
	}
	term, _ := r.log.Term(next - 1)
	r.say(to, rmsg.Msg{
		Kind:    rmsg.App,
		Index:   next - 1,
		LogTerm: term,
		Entries: r.log.From(next, api.MaxBatch),
		Commit:  r.commit,
		Ctx:     r.ctx,
	})
}

// own tells whether what stands at index is of the node's Term.
func (r *Raft) own(index int64) bool {
	term, ok := r.log.Term(index)
	return ok && term == r.hard.Term
}

// advance commits what more than half have, and tells whether that is more than before.
func (r *Raft) advance() bool {
	have := []int64{r.last()}
	for to := range r.others {
		have = append(have, r.peers[to].match)
	}
	index := quorum.Reached(have...)
	// An entry of an older term may still give way, though more than half have it.
	if index <= r.commit || !r.own(index) {
		return false
	}
	r.commit = index
	return true
}

// hearApped takes what another node has by now, and sends it what it lacks.
func (r *Raft) hearApped(m rmsg.Msg) {
	if r.role != leader {
		return
	}
	p := &r.peers[m.From]
	if m.Ctx <= r.ctx {
		p.ctx = max(p.ctx, m.Ctx)
	}
	index := min(m.Index, r.last())
	if m.Ok {
		p.match = max(p.match, index)
		p.next = max(p.next, p.match+1)
		r.goOn(m.From)
	} else {
		p.next = max(min(p.next-1, index+1), p.match+1)
		r.send(m.From)
	}
	r.tell()
}

// goOn lets others know of what is committed now, or else sends to the node whose Match has risen what is left for it.
func (r *Raft) goOn(to int) {
	if r.advance() {
		r.sendAll()
	} else if r.peers[to].next <= r.last() {
		r.send(to)
	}
}

// tell tells the reads, from the first one on, by whose Ctx more than half have followed since they were asked for.
func (r *Raft) tell() {
	for len(r.reads) > 0 && r.followed(r.reads[0].Ctx) {
		r.told = append(r.told, r.reads[0])
		r.reads = r.reads[1:]
	}
}

// followed tells whether the node and those from which this Ctx, or a greater one, came back are more than half.
func (r *Raft) followed(ctx int64) bool {
	many := 1
	for to := range r.others {
		if r.peers[to].ctx >= ctx {
			many++
		}
	}
	return quorum.Won(many, r.n)
}
