package raft_test

import (
	"fmt"
	"hash/fnv"
	"math/rand"
	"slices"
	"testing"

	"decamp/api"
	"decamp/raft"
	"decamp/rmsg"
)

// kept is what of a node outlasts its beginning anew.
type kept struct {
	h api.Hard
	s api.Snap
	l []api.Entry
}

// cluster is nodes, with what each has kept, what is under way, and all that P12.6 is held by.
type cluster struct {
	*rand.Rand
	t     *testing.T
	n     int
	nodes []*raft.Raft
	kept  []kept
	// applied is up to where each node's committed entries were looked at.
	applied []int64
	flight  []rmsg.Msg
	cut     map[[2]int]bool

	leaders map[int64]int
	// log is all that was committed anywhere, from index 1 on; sums are those of its beginnings.
	log  []api.Entry
	sums []string
	// asked is, of each node's reads, by Ctx, what they are to be told of at least; they are of the term that it was taken in last.
	asked []map[int64]int64
	term  []int64
	told  int
}

func newCluster(t *testing.T, seed int64, n int) *cluster {
	t.Helper()
	c := &cluster{Rand: rand.New(rand.NewSource(seed)), t: t, n: n, leaders: map[int64]int{}, sums: []string{""}, cut: map[[2]int]bool{}}
	for id := range n {
		c.nodes = append(c.nodes, nil)
		c.kept = append(c.kept, kept{h: api.Hard{Vote: -1}})
		c.applied = append(c.applied, 0)
		c.asked = append(c.asked, nil)
		c.term = append(c.term, 0)
		c.anew(id)
	}
	return c
}

// anew lets a node begin with what it has kept.
func (c *cluster) anew(id int) {
	c.t.Helper()
	k := c.kept[id]
	r, e := raft.New(id, c.n, k.h, k.s, k.l)
	mustBe(c.t, api.OK, e)
	c.nodes[id], c.applied[id], c.asked[id] = r, k.s.Index, nil
	c.term[id] = k.h.Term
	c.holdSnap(k.s)
}

// holdSnap holds that a snap is of what was committed.
func (c *cluster) holdSnap(s api.Snap) {
	c.t.Helper()
	if s.Index >= int64(len(c.sums)) || c.sums[s.Index] != string(s.Data) {
		c.t.Fatalf("a snap of what was never committed: %+v", s)
	}
}

// commit holds that what a node has committed is what others have, or is the first one to.
func (c *cluster) commit(e api.Entry) {
	c.t.Helper()
	if e.Index <= int64(len(c.log)) {
		alike(c.t, c.log[e.Index-1], e)
		return
	}
	if e.Index != int64(len(c.log))+1 {
		c.t.Fatalf("%+v is committed, and nothing ahead of it", e)
	}
	c.log = append(c.log, e)
	h := fnv.New64a()
	fmt.Fprint(h, c.sums[len(c.sums)-1], e.Index, e.Term, string(e.Data))
	c.sums = append(c.sums, fmt.Sprint(h.Sum64()))
}

// look holds what is to hold of a node whenever it is looked at.
func (c *cluster) look(id int) {
	c.t.Helper()
	r := c.nodes[id]
	s := r.State()
	if s.Role == leader {
		if other, ok := c.leaders[s.Hard.Term]; ok && other != id {
			c.t.Fatalf("%d and %d both led in term %d", other, id, s.Hard.Term)
		}
		c.leaders[s.Hard.Term] = id
	}
	if c.applied[id] < s.Base {
		c.holdSnap(r.Snap())
		c.applied[id] = s.Base
	}
	for _, e := range r.Entries(c.applied[id]+1, s.Commit) {
		c.commit(e)
		c.applied[id] = e.Index
	}
	if c.applied[id] != s.Commit {
		c.t.Fatalf("%d has %d committed, and entries up to %d", id, s.Commit, c.applied[id])
	}
}

// take keeps what is to be kept of a node, with its snap if compacted, and lets what was said go.
func (c *cluster) take(id int, compacted bool) {
	c.t.Helper()
	r := c.nodes[id]
	o := r.Take()
	k := &c.kept[id]
	k.h = o.Hard
	switch {
	case o.Snap.Index > 0 || compacted:
		k.s, k.l = r.Snap(), r.Entries(0, top)
	case len(o.Fresh) > 0:
		k.l = slices.DeleteFunc(k.l, func(e api.Entry) bool { return e.Index >= o.Fresh[0].Index })
		k.l = append(k.l, o.Fresh...)
	}
	c.look(id)
	for _, m := range o.Msgs {
		if !rmsg.Right(m) || m.From != id {
			c.t.Fatalf("%d said what isn't right: %+v", id, m)
		}
	}
	c.flight = append(c.flight, o.Msgs...)
	for _, x := range o.Reads {
		least, ok := c.asked[id][x.Ctx]
		if !ok || x.Index < least {
			c.t.Fatalf("%d was told %+v, and %d was committed: %v", id, x, least, ok)
		}
		delete(c.asked[id], x.Ctx)
		c.told++
	}
	c.term[id] = o.Hard.Term
}

// done looks at a node after it did something, and mostly takes what came of it.
func (c *cluster) done(id int) {
	c.t.Helper()
	// What one node alone commits isn't kept by any till it is taken.
	if c.n > 1 {
		c.look(id)
	}
	if c.Intn(4) > 0 {
		c.take(id, false)
	}
}

// ask asks a node for a read, which is to be told of all that is committed anywhere.
func (c *cluster) ask(id int) {
	c.t.Helper()
	r := c.nodes[id]
	// Reads of an older term that were told are taken first: their Ctx come again.
	if c.term[id] != r.State().Hard.Term {
		c.take(id, false)
		c.asked[id] = nil
	}
	least := int64(0)
	for _, other := range c.nodes {
		least = max(least, other.State().Commit)
	}
	ctx, e := r.Read()
	if e != api.OK {
		return
	}
	if c.asked[id] == nil {
		c.asked[id] = map[int64]int64{}
	}
	c.asked[id][ctx] = least
}

// compact lets a node's snap stand for what it has committed.
func (c *cluster) compact(id int) {
	c.t.Helper()
	c.take(id, false)
	if at := c.applied[id]; at > 0 {
		mustBe(c.t, api.OK, c.nodes[id].Compact(at, []byte(c.sums[at])))
		c.take(id, true)
	}
}

// come lets one of the messages that are under way come, be lost, or come and stay.
func (c *cluster) come() {
	c.t.Helper()
	if len(c.flight) == 0 {
		return
	}
	k := c.Intn(min(len(c.flight), 1+c.Intn(40)))
	m := c.flight[k]
	if c.Intn(10) > 0 {
		c.flight = slices.Delete(c.flight, k, k+1)
	}
	if c.cut[[2]int{m.From, m.To}] || c.Intn(12) == 0 {
		return
	}
	mustBe(c.t, api.OK, c.nodes[m.To].Step(m))
	c.done(m.To)
}

// turn does one thing, whatever it is.
func (c *cluster) turn() {
	c.t.Helper()
	id := c.Intn(c.n)
	switch k := c.Intn(100); {
	case k < 20:
		c.nodes[id].Tick()
		c.done(id)
	case k < 80:
		c.come()
	case k < 86:
		for id := range c.n {
			c.nodes[id].Propose(fmt.Append(nil, c.Intn(1000000)))
			c.done(id)
		}
	case k < 93:
		for id := range c.n {
			c.ask(id)
			c.done(id)
		}
	case k < 95:
		c.compact(id)
	case k < 96:
		c.anew(id)
	case k < 97:
		c.cut[[2]int{id, c.Intn(c.n)}] = true
	default:
		clear(c.cut)
	}
	if over := len(c.flight) - 200; over > 0 {
		c.flight = c.flight[over:]
	}
}

// calm lets rounds go by in which nothing is lost: all tick, and all that is said comes, in order or in none.
func (c *cluster) calm(rounds int, ordered bool) {
	c.t.Helper()
	for range rounds {
		for id, r := range c.nodes {
			r.Tick()
			c.take(id, false)
		}
		for came := 0; len(c.flight) > 0; came++ {
			// All that came late is answered, with all that a node lacks, one by one.
			if came > 50000 {
				c.t.Fatal("they never fall silent")
			}
			k := 0
			if !ordered {
				k = c.Intn(len(c.flight))
			}
			m := c.flight[k]
			c.flight = slices.Delete(c.flight, k, k+1)
			mustBe(c.t, api.OK, c.nodes[m.To].Step(m))
			c.take(m.To, false)
		}
	}
}

// leader is the one leader, which all know, in one term.
func (c *cluster) leader() int {
	c.t.Helper()
	lead := c.nodes[0].State().Lead
	for id, r := range c.nodes {
		s := r.State()
		if s.Lead != lead || lead < 0 || (s.Role == leader) != (id == lead) || s.Hard.Term != c.nodes[lead].State().Hard.Term {
			c.t.Fatalf("%d: %+v, and 0's Lead is %d", id, s, lead)
		}
	}
	return lead
}

// goOn holds that what is added, and asked for, when nothing is lost comes to its end at all.
func (c *cluster) goOn(ordered bool) {
	c.t.Helper()
	c.calm(60, ordered)
	lead := c.leader()
	for k := range 10 {
		_, _, e := c.nodes[lead].Propose(fmt.Append(nil, "calm ", k))
		mustBe(c.t, api.OK, e)
	}
	c.asked[lead] = nil
	c.ask(lead)
	told := c.told
	c.calm(4, ordered)
	if c.told != told+1 {
		c.t.Fatal("a read isn't told")
	}
	last := c.nodes[lead].State().Last
	for id, r := range c.nodes {
		if s := r.State(); s.Commit != last || s.Last != last || s.Lead != lead {
			c.t.Fatalf("%d: %+v, and the leader %d has %d entries", id, s, lead, last)
		}
	}
	if int64(len(c.log)) != last || string(c.log[last-1].Data) != "calm 9" {
		c.t.Fatal("not all is committed", len(c.log), last)
	}
}

// P12.6: clusters in which messages come, are lost, come late and twice, nodes begin anew with what they kept, entries are added, reads are asked for, logs compacted: no two lead in one Term, what is committed stays, and is the same everywhere, a read is of all that was committed when it was asked for. When nothing is lost any more, there is one leader, known to all, and what is added then is committed at all.
func TestCluster(t *testing.T) {
	for n := 1; n <= 3; n++ {
		terms, log, told := 0, 0, 0
		for seed := range int64(60 * n) {
			c := newCluster(t, seed, n)
			for range 3 {
				for range 1000 {
					c.turn()
				}
				clear(c.cut)
				c.goOn(seed%2 == 0)
			}
			terms, log, told = terms+len(c.leaders), log+len(c.log), told+c.told
		}
		t.Logf("of %d: %d terms, %d entries, %d reads", n, terms, log, told)
		if terms < 300 || log < 3000 || told < 1000 {
			t.Errorf("of %d: too little was done: %d terms, %d entries, %d reads", n, terms, log, told)
		}
	}
}

// The chapter's example; and clusters in which nothing is ever lost: the first one to wait long enough leads, in Term 1.
func TestClusterCalm(t *testing.T) {
	for n := 1; n <= 3; n++ {
		c := newCluster(t, 1, n)
		c.calm(patience-1, true)
		for id, r := range c.nodes {
			if s := r.State(); s.Role != follower || s.Lead != -1 || s.Hard.Term != 0 {
				t.Fatal(id, s)
			}
		}
		c.calm(1, true)
		if lead := c.leader(); lead != 0 {
			t.Fatal(lead)
		}
		c.calm(beat, true)
		for id, r := range c.nodes {
			if s := r.State(); s.Hard.Term != 1 || s.Commit != 1 || s.Last != 1 {
				t.Fatal(id, s)
			}
		}
		c.calm(100, true)
		if lead := c.leader(); lead != 0 || len(c.leaders) != 1 || len(c.log) != 1 {
			t.Fatal(lead, c.leaders, c.log)
		}
	}
}

// P12.6: what an older term's leader has added, and more than half have, may still give way, till an entry of a later leader's own term is committed: so it isn't committed alone.
func TestClusterOlderTerm(t *testing.T) {
	newNode := func(id int, term int64, l ...api.Entry) *raft.Raft {
		r, e := raft.New(id, 3, api.Hard{Term: term, Vote: -1}, api.Snap{}, l)
		mustBe(t, api.OK, e)
		return r
	}
	// The entry 2 of Term 2 was spread by the node 0 as far as itself and, in Term 4 again, the node 1; the node 2 has one of Term 3 there.
	zero := newNode(0, 3, run(0, 1, 2)...)
	two := newNode(2, 3, run(0, 1, 3)...)
	lead(t, zero, 0, 3)
	step(t, zero, rmsg.Msg{Kind: rmsg.Apped, From: 1, Term: 4, Ok: true, Index: 2})
	if s := zero.State(); s.Hard.Term != 4 || s.Commit != 0 {
		t.Fatal("an entry of an older term is committed", s)
	}
	one := newNode(1, 4, run(0, 1, 2)...)
	wait(two, 2)
	step(t, two, rmsg.Msg{Kind: rmsg.Polled, From: 1, To: 2, Term: 5})
	wait(two, 2)
	two.Take()
	step(t, two, rmsg.Msg{Kind: rmsg.Polled, From: 1, To: 2, Term: 6, Ok: true})
	for _, m := range two.Take().Msgs {
		if m.To == 1 {
			step(t, one, m)
		}
	}
	step(t, two, one.Take().Msgs...)
	if s := two.State(); s.Role != leader || s.Hard.Term != 6 {
		t.Fatal(s)
	}
	step(t, two, rmsg.Msg{Kind: rmsg.Apped, From: 1, To: 2, Term: 6, Index: 1})
	for _, m := range two.Take().Msgs {
		if m.To == 1 && m.Index == 1 {
			step(t, one, m)
		}
	}
	step(t, two, one.Take().Msgs...)
	if s := two.State(); s.Commit != 3 {
		t.Fatal(s)
	}
	has(t, one, two.Entries(1, 3)...)
}
