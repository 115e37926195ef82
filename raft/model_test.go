package raft_test

import (
	"fmt"
	"math/rand"
	"slices"
	"testing"

	"decamp/api"
	"decamp/raft"
	"decamp/rmsg"
)

// ask is a read of the model, not told yet.
type ask struct{ ctx, index int64 }

// model is a node as the chapter's words have it, without the program's own code of this layer or of those below.
type model struct {
	id, n             int
	hard              api.Hard
	snap              api.Snap
	keep              bool
	log               []api.Entry
	changed           map[int64]bool
	committed         int64
	role, lead, woken int
	says              map[int]bool
	next, match, back map[int]int64
	ctx               int64
	asked             []ask
	out               raft.Out
}

func newModel(id, n int, h api.Hard, s api.Snap, l []api.Entry) *model {
	return &model{id: id, n: n, hard: h, snap: s, log: slices.Clone(l), changed: map[int64]bool{}, committed: s.Index, lead: -1}
}

func (m *model) last() (int64, int64) {
	if len(m.log) == 0 {
		return m.snap.Index, m.snap.Term
	}
	e := m.log[len(m.log)-1]
	return e.Index, e.Term
}

// term is what stands at an index: -1 if nothing does.
func (m *model) term(index int64) int64 {
	if index == m.snap.Index {
		return m.snap.Term
	}
	for _, e := range m.log {
		if e.Index == index {
			return e.Term
		}
	}
	return -1
}

func (m *model) newer(index, term int64) bool {
	i, t := m.last()
	if term != t {
		return term > t
	}
	return index >= i
}

func (m *model) say(to int, x rmsg.Msg) {
	x.From, x.To = m.id, to
	if x.Term == 0 {
		x.Term = m.hard.Term
	}
	m.out.Msgs = append(m.out.Msgs, x)
}

func (m *model) each(do func(to int)) {
	for _, to := range []int{0, 1, 2}[:m.n] {
		if to != m.id {
			do(to)
		}
	}
}

func (m *model) fall(term int64, lead int) {
	if term > m.hard.Term {
		m.hard = api.Hard{Term: term, Vote: -1}
	}
	m.role, m.lead, m.woken = follower, lead, 0
	m.asked, m.says, m.next, m.match = nil, nil, nil, nil
}

func (m *model) sends(to int) {
	if m.next[to] <= m.snap.Index {
		m.say(to, rmsg.Msg{Kind: rmsg.Whole, Snap: m.snap})
		return
	}
	ahead := m.next[to] - 1
	x := rmsg.Msg{Kind: rmsg.App, Index: ahead, LogTerm: m.term(ahead), Commit: m.committed, Ctx: m.ctx}
	for _, e := range m.log {
		if e.Index > ahead && len(x.Entries) < 4 {
			x.Entries = append(x.Entries, e)
		}
	}
	m.say(to, x)
}

// commits counts, of each index from the last one down, how many have it: the first one that more than half have.
func (m *model) commits() bool {
	index, _ := m.last()
	for ; index > m.committed; index-- {
		many := 1
		m.each(func(to int) {
			if m.match[to] >= index {
				many++
			}
		})
		if 2*many > m.n {
			break
		}
	}
	if index <= m.committed || m.term(index) != m.hard.Term {
		return false
	}
	m.committed = index
	return true
}

func (m *model) add(data []byte) {
	index, _ := m.last()
	m.log = append(m.log, api.Entry{Index: index + 1, Term: m.hard.Term, Data: data})
	m.changed[index+1] = true
}

func (m *model) leads() {
	m.role, m.lead, m.woken, m.ctx, m.asked = leader, m.id, 0, 0, nil
	m.next, m.match, m.back = map[int]int64{}, map[int]int64{}, map[int]int64{}
	last, _ := m.last()
	m.each(func(to int) { m.next[to] = last + 1 })
	m.add(nil)
	m.commits()
	m.each(m.sends)
}

// tally tells whether more than half say so.
func (m *model) tally(ok bool) bool {
	many := 0
	for _, v := range m.says {
		if v == ok {
			many++
		}
	}
	return 2*many > m.n
}

func (m *model) stands(role, kind int) {
	m.role, m.lead, m.woken, m.says = role, -1, 0, map[int]bool{m.id: true}
	term := m.hard.Term
	if kind == rmsg.Poll {
		term++
	}
	if m.n == 1 {
		return
	}
	index, logTerm := m.last()
	m.each(func(to int) { m.say(to, rmsg.Msg{Kind: kind, Term: term, Index: index, LogTerm: logTerm}) })
}

func (m *model) runs() {
	m.hard = api.Hard{Term: m.hard.Term + 1, Vote: m.id}
	m.stands(candidate, rmsg.Vote)
	if m.n == 1 {
		m.leads()
	}
}

func (m *model) tick() {
	m.woken++
	last, _ := m.last()
	if m.role == leader {
		if m.woken == 2 {
			m.woken = 0
			m.each(m.sends)
		}
	} else if m.woken >= 6+3*m.id && m.hard.Term != top && last != top {
		m.stands(poller, rmsg.Poll)
		if m.n == 1 {
			m.runs()
		}
	}
}

// counts counts a yes or a no of a poll, or of a vote: those that are left of n aren't more than half, once half of n is against it.
func (m *model) counts(from int, ok bool, won func()) {
	if _, said := m.says[from]; !said {
		m.says[from] = ok
	}
	against := 0
	for _, v := range m.says {
		if !v {
			against++
		}
	}
	if m.tally(true) {
		won()
	} else if 2*(m.n-against) <= m.n {
		m.fall(m.hard.Term, -1)
	}
}

func (m *model) step(x rmsg.Msg) {
	if x.Term < m.hard.Term {
		switch x.Kind {
		case rmsg.App, rmsg.Whole:
			m.say(x.From, rmsg.Msg{Kind: rmsg.Apped})
		case rmsg.Poll:
			m.say(x.From, rmsg.Msg{Kind: rmsg.Polled})
		case rmsg.Vote:
			m.say(x.From, rmsg.Msg{Kind: rmsg.Voted})
		}
		return
	}
	if x.Term > m.hard.Term {
		switch {
		case x.Kind == rmsg.Poll, x.Kind == rmsg.Polled && x.Ok:
		case x.Kind == rmsg.App, x.Kind == rmsg.Whole:
			m.fall(x.Term, x.From)
		default:
			m.fall(x.Term, -1)
		}
	}
	map[int]func(rmsg.Msg){1: m.poll, 2: m.polled, 3: m.vote, 4: m.voted, 5: m.app, 6: m.apped, 7: m.whole}[x.Kind](x)
}

func (m *model) poll(x rmsg.Msg) {
	patient := m.lead == -1 || m.role != leader && m.woken >= 6
	if x.Term > m.hard.Term && m.newer(x.Index, x.LogTerm) && patient {
		m.say(x.From, rmsg.Msg{Kind: rmsg.Polled, Term: x.Term, Ok: true})
	} else {
		m.say(x.From, rmsg.Msg{Kind: rmsg.Polled})
	}
}

func (m *model) polled(x rmsg.Msg) {
	if m.role == poller && (!x.Ok || x.Term == m.hard.Term+1) {
		m.counts(x.From, x.Ok, m.runs)
	}
}

func (m *model) vote(x rmsg.Msg) {
	ok := (m.hard.Vote == -1 || m.hard.Vote == x.From) && m.newer(x.Index, x.LogTerm)
	if ok {
		m.hard.Vote = x.From
		m.woken = 0
	}
	m.say(x.From, rmsg.Msg{Kind: rmsg.Voted, Ok: ok})
}

func (m *model) voted(x rmsg.Msg) {
	if m.role == candidate {
		m.counts(x.From, x.Ok, m.leads)
	}
}

// fits takes entries as layer 8 says it.
func (m *model) fits(x rmsg.Msg) (int64, bool) {
	last, _ := m.last()
	if m.term(x.Index) != x.LogTerm {
		return max(min(x.Index-1, last), m.snap.Index), false
	}
	other := false
	for _, e := range x.Entries {
		if !other && m.term(e.Index) == e.Term {
			continue
		}
		if !other {
			other = true
			m.log = slices.DeleteFunc(slices.Clone(m.log), func(o api.Entry) bool { return o.Index >= e.Index })
			for index := range m.changed {
				if index >= e.Index {
					delete(m.changed, index)
				}
			}
		}
		m.log = append(m.log, e)
		m.changed[e.Index] = true
	}
	return x.Index + int64(len(x.Entries)), true
}

func (m *model) app(x rmsg.Msg) {
	if m.role == leader {
		return
	}
	m.fall(m.hard.Term, x.From)
	if x.Index < m.committed {
		m.say(x.From, rmsg.Msg{Kind: rmsg.Apped, Ok: true, Index: m.committed, Ctx: x.Ctx})
		return
	}
	index, ok := m.fits(x)
	if lower := min(x.Commit, index); ok && lower > m.committed {
		m.committed = lower
	}
	m.say(x.From, rmsg.Msg{Kind: rmsg.Apped, Ok: ok, Index: index, Ctx: x.Ctx})
}

func (m *model) apped(x rmsg.Msg) {
	if m.role != leader {
		return
	}
	if x.Ctx > m.back[x.From] && x.Ctx <= m.ctx {
		m.back[x.From] = x.Ctx
	}
	last, _ := m.last()
	index := min(x.Index, last)
	if x.Ok {
		if index > m.match[x.From] {
			m.match[x.From] = index
		}
		if m.next[x.From] <= m.match[x.From] {
			m.next[x.From] = m.match[x.From] + 1
		}
		if m.commits() {
			m.each(m.sends)
		} else if m.next[x.From] <= last {
			m.sends(x.From)
		}
	} else {
		m.next[x.From] = max(min(m.next[x.From]-1, index+1), m.match[x.From]+1)
		m.sends(x.From)
	}
	m.tells()
}

func (m *model) tells() {
	for len(m.asked) > 0 {
		many := 1
		m.each(func(to int) {
			if m.back[to] >= m.asked[0].ctx {
				many++
			}
		})
		if 2*many <= m.n {
			return
		}
		m.out.Reads = append(m.out.Reads, raft.Read{Ctx: m.asked[0].ctx, Index: m.asked[0].index})
		m.asked = m.asked[1:]
	}
}

func (m *model) whole(x rmsg.Msg) {
	if m.role == leader {
		return
	}
	m.fall(m.hard.Term, x.From)
	if x.Snap.Index <= m.committed {
		m.say(x.From, rmsg.Msg{Kind: rmsg.Apped, Ok: true, Index: m.committed})
		return
	}
	if m.term(x.Snap.Index) != x.Snap.Term {
		m.log, m.changed = nil, map[int64]bool{}
		m.snap, m.keep = x.Snap, true
	}
	m.committed = x.Snap.Index
	m.say(x.From, rmsg.Msg{Kind: rmsg.Apped, Ok: true, Index: x.Snap.Index})
}

func (m *model) propose(data []byte) (int64, int64, api.Errno) {
	last, _ := m.last()
	switch {
	case m.role != leader:
		return 0, 0, api.ErrAway
	case len(data) > most:
		return 0, 0, api.ErrArg
	case last == top:
		return 0, 0, api.ErrFull
	}
	m.add(data)
	m.commits()
	m.each(m.sends)
	return last + 1, m.hard.Term, api.OK
}

func (m *model) read() (int64, api.Errno) {
	if m.role != leader {
		return 0, api.ErrAway
	}
	if m.term(m.committed) != m.hard.Term {
		return 0, api.ErrBusy
	}
	m.ctx++
	m.asked = append(m.asked, ask{m.ctx, m.committed})
	if m.n == 1 {
		m.tells()
	}
	m.each(m.sends)
	return m.ctx, api.OK
}

func (m *model) compact(index int64, data []byte) api.Errno {
	term := m.term(index)
	if term == -1 || index > m.committed || index == 0 || len(data) > whole {
		return api.ErrArg
	}
	m.log = slices.DeleteFunc(slices.Clone(m.log), func(e api.Entry) bool { return e.Index <= index })
	m.snap = api.Snap{Index: index, Term: term, Data: data}
	return api.OK
}

func (m *model) take() raft.Out {
	o := m.out
	o.Hard = m.hard
	fresh := false
	for _, e := range m.log {
		fresh = fresh || m.changed[e.Index]
		if fresh {
			o.Fresh = append(o.Fresh, e)
		}
	}
	if m.keep {
		o.Snap = m.snap
	}
	m.out, m.keep, m.changed = raft.Out{}, false, map[int64]bool{}
	return o
}

func (m *model) state() raft.State {
	last, _ := m.last()
	s := raft.State{Role: m.role, Lead: m.lead, Woken: m.woken, Hard: m.hard, Commit: m.committed, Base: m.snap.Index, Last: last}
	for node := range m.n {
		s.Next = append(s.Next, m.next[node])
		s.Match = append(s.Match, m.match[node])
	}
	return s
}

// chance makes what the model and the program are given in random turns.
type chance struct {
	*rand.Rand
	m *model
}

// near is a number not far from this one, and now and then one that is far.
func (c chance) near(v int64) int64 {
	switch c.Intn(60) {
	case 0:
		return 0
	case 1:
		return top
	}
	return max(v+int64(c.Intn(7)-3), 0)
}

// place is an index and what likely stands there.
func (c chance) place() (int64, int64) {
	last, lastTerm := c.m.last()
	index := c.near([]int64{last, last, c.m.committed, c.m.snap.Index}[c.Intn(4)])
	term := c.m.term(index)
	if term == -1 {
		term = lastTerm
	}
	if c.Intn(6) == 0 {
		term = c.near(term)
	}
	return min(index, top), min(term, top)
}

// data are few bytes, which tell one from another.
func (c chance) data() []byte { return fmt.Append(nil, c.Intn(1000)) }

// list are entries behind these, right and of no Term above most, as far as they may be.
func (c chance) list(index, term, most int64) []api.Entry {
	var l []api.Entry
	for range c.Intn(6) {
		index++
		if c.Intn(4) == 0 {
			term = term + int64(c.Intn(2)) + 1
		}
		if own := c.m.term(index); own >= term && c.Intn(3) > 0 {
			term = own
		}
		term = max(term, 1)
		if term > most || index > top || len(l) == 4 {
			return l
		}
		l = append(l, api.Entry{Index: index, Term: term, Data: c.data()})
	}
	return l
}

// message is one that is right, likely one that does something.
func (c chance) message() rmsg.Msg {
	x := rmsg.Msg{Kind: 1 + c.Intn(7), From: c.Intn(c.m.n), To: c.m.id, Term: c.m.hard.Term + int64([]int{-2, -1, 0, 0, 0, 0, 0, 0, 0, 0, 1, 1, 2}[c.Intn(13)])}
	if c.Intn(200) == 0 {
		x.Term = top - int64(c.Intn(2))
	}
	if c.m.role == poller && c.Intn(2) == 0 {
		x.Kind, x.Term = rmsg.Polled, c.m.hard.Term+1
	}
	if c.m.role == candidate && c.Intn(2) == 0 {
		x.Kind = rmsg.Voted
	}
	if c.m.role == leader && c.Intn(2) == 0 {
		x.Kind, x.Term = rmsg.Apped, c.m.hard.Term
	}
	switch x.Kind {
	case rmsg.Poll, rmsg.Vote:
		x.Index, x.LogTerm = c.place()
	case rmsg.Polled, rmsg.Voted:
		x.Ok = c.Intn(3) > 0
	case rmsg.App:
		x.Index, x.LogTerm = c.place()
		x.Commit = min(c.near(c.m.committed), top)
		x.Ctx = int64(c.Intn(5))
		x.Entries = c.list(x.Index, x.LogTerm, x.Term)
	case rmsg.Apped:
		last, _ := c.m.last()
		x.Ok, x.Index, x.Ctx = c.Intn(3) > 0, min(c.near(last), top), max(c.m.ctx+int64(c.Intn(4)-2), 0)
	case rmsg.Whole:
		index, term := c.place()
		x.Snap = api.Snap{Index: max(index, 1), Term: max(min(term, x.Term), 1), Data: c.data()}
	}
	return x
}

// begin is a node as it may be kept.
func (c chance) begin() (int, int, api.Hard, api.Snap, []api.Entry) {
	n := 1 + c.Intn(3)
	if c.Intn(2) == 0 {
		n = 3
	}
	h := api.Hard{Term: int64(c.Intn(6)), Vote: c.Intn(4) - 1}
	var s api.Snap
	if h.Term > 0 && c.Intn(2) == 0 {
		s = api.Snap{Index: 1 + int64(c.Intn(5)), Term: 1 + int64(c.Intn(int(h.Term))), Data: c.data()}
	}
	if s.Index > 0 && c.Intn(20) == 0 {
		s.Index = top - int64(c.Intn(8))
	}
	if c.Intn(20) == 0 {
		h.Term = top - int64(c.Intn(4))
	}
	c.m.snap = s
	return c.Intn(n), n, h, s, c.list(s.Index, s.Term, h.Term)
}

// turn does one thing to both, and holds that both answer alike.
func turn(t *testing.T, c chance, r *raft.Raft) {
	t.Helper()
	m := c.m
	var want, got any
	switch k := c.Intn(40); {
	case k < 10:
		for range 1 + c.Intn(4) {
			m.tick()
			r.Tick()
		}
	case k < 30:
		x := c.message()
		if rmsg.Right(x) {
			m.step(x)
			want, got = api.OK, r.Step(x)
		} else {
			want, got = api.ErrArg, r.Step(x)
		}
	case k < 34:
		data := c.data()
		if c.Intn(100) == 0 {
			data = make([]byte, most+c.Intn(2))
		}
		i, term, e := m.propose(data)
		i2, term2, e2 := r.Propose(data)
		want, got = []any{i, term, e}, []any{i2, term2, e2}
	case k < 37:
		ctx, e := m.read()
		ctx2, e2 := r.Read()
		want, got = []any{ctx, e}, []any{ctx2, e2}
	case k < 39:
		index, data := c.near(m.committed), c.data()
		want, got = m.compact(index, data), r.Compact(index, data)
	default:
		want, got = m.take(), r.Take()
	}
	alike(t, want, got)
	alike(t, m.state(), r.State())
	alike(t, m.snap, r.Snap())
}

// P12.1 to P12.5: random turns of a node, held against the model.
func TestModel(t *testing.T) {
	roles := map[int]int{}
	for seed := range int64(1500) {
		c := chance{rand.New(rand.NewSource(seed)), &model{}}
		id, n, h, s, l := c.begin()
		c.m = newModel(id, n, h, s, l)
		r, e := raft.New(id, n, h, s, l)
		mustBe(t, api.OK, e)
		for range 120 {
			turn(t, c, r)
			roles[c.m.role]++
		}
		has(t, r, c.m.log...)
		from, to := c.near(c.m.snap.Index), c.near(c.m.committed)
		alike(t, slices.DeleteFunc(slices.Clone(c.m.log), func(e api.Entry) bool { return e.Index < from || e.Index > to }), r.Entries(from, to))
		out := r.Take()
		alike(t, c.m.take(), out)
		for _, x := range out.Msgs {
			if !rmsg.Right(x) {
				t.Fatalf("seed %d: %+v isn't right", seed, x)
			}
		}
	}
	for role := follower; role <= leader; role++ {
		if roles[role] < 3000 {
			t.Errorf("the role %d was seldom: %v", role, roles)
		}
	}
}
