package member_test

import (
	"fmt"
	"hash/fnv"
	"math/rand"
	"slices"
	"testing"

	"decamp/api"
	"decamp/disk"
	"decamp/member"
	"decamp/raft"
	"decamp/rmsg"
)

// cluster is members, each with its disk, what is under way, and all that P13.2 is held by.
type cluster struct {
	*rand.Rand
	t      *testing.T
	n      int
	m      []*member.Member
	d      []*disk.Disk
	flight []rmsg.Msg
	cut    map[[2]int]bool

	// said is what each one's disk had when it told something last.
	said []kept
	// log is all that was applied anywhere, from index 1 on; sums are those of its beginnings.
	log     []api.Entry
	sums    []string
	applied []int64
	// asked is, of each one's reads, by Ctx, what they are to be told of at least; they are of the term that it was in last.
	asked []map[int64]int64
	term  []int64

	snaps, powers, compacts, told int
}

func newCluster(t *testing.T, seed int64, n int) *cluster {
	t.Helper()
	c := &cluster{Rand: rand.New(rand.NewSource(seed)), t: t, n: n, cut: map[[2]int]bool{}, sums: []string{""}}
	c.m, c.d, c.said = make([]*member.Member, n), make([]*disk.Disk, n), make([]kept, n)
	c.applied, c.asked, c.term = make([]int64, n), make([]map[int64]int64, n), make([]int64, n)
	for id := range n {
		c.d[id] = newDisk(t, api.MaxRoom)
		c.said[id].h = unborn
		c.open(id)
	}
	return c
}

// open opens a member, which has all that its disk had when it told something last, or, in part, what was under way then.
func (c *cluster) open(id int) {
	c.t.Helper()
	m, s, e := member.Open(id, c.n, c.d[id])
	mustBe(c.t, api.OK, e)
	c.holdSnap(s)
	was, is := c.said[id], safe(c.t, c.d[id])
	alike(c.t, is.s, s)
	voted := was.h.Vote >= 0 && is.h.Vote != was.h.Vote
	if is.h.Term < was.h.Term || is.h.Term == was.h.Term && voted || is.s.Index < was.s.Index {
		c.t.Fatalf("%d had %+v, and has %+v", id, was, is)
	}
	if is.s.Index == was.s.Index && !is.follows(was) {
		c.t.Fatalf("%d had %+v, and has lost some of that: %+v", id, was, is)
	}
	alike(c.t, []any{is.s.Index, is.h, false}, []any{m.Applied(), m.State().Hard, m.Gone()})
	c.m[id], c.applied[id], c.asked[id], c.said[id] = m, is.s.Index, nil, is
}

// holdSnap holds that a snap is of what was applied.
func (c *cluster) holdSnap(s api.Snap) {
	c.t.Helper()
	if s.Index >= int64(len(c.sums)) || c.sums[s.Index] != string(s.Data) {
		c.t.Fatalf("a snap of what was never applied: %+v", s)
	}
}

// apply holds that an entry that a member tells is the one that others tell at its index, or the next one of all.
func (c *cluster) apply(id int, x api.Entry) {
	c.t.Helper()
	c.applied[id]++
	alike(c.t, c.applied[id], x.Index)
	if x.Index <= int64(len(c.log)) {
		alike(c.t, c.log[x.Index-1], x)
		return
	}
	c.log = append(c.log, x)
	h := fnv.New64a()
	fmt.Fprint(h, c.sums[len(c.sums)-1], x.Index, x.Term, string(x.Data))
	c.sums = append(c.sums, fmt.Sprint(h.Sum64()))
}

// has tells whether what is kept has these entries.
func (k kept) has(l []api.Entry) bool {
	for _, x := range l {
		at := x.Index - k.s.Index - 1
		if at >= int64(len(k.l)) || at >= 0 && k.l[at].Term != x.Term {
			return false
		}
	}
	return true
}

// follows tells whether what is kept has all entries that were, or others from one of them on; both have one snap.
func (k kept) follows(was kept) bool {
	for n, x := range was.l {
		if n >= len(k.l) {
			return false
		}
		if k.l[n].Term != x.Term {
			return true
		}
	}
	return true
}

// stands holds that what a member says is kept by it.
func (c *cluster) stands(id int, k kept, m rmsg.Msg) {
	c.t.Helper()
	ok := rmsg.Right(m) && m.From == id
	switch {
	case m.Kind == rmsg.Voted && m.Ok:
		ok = ok && k.h == api.Hard{Term: m.Term, Vote: m.To}
	case m.Kind == rmsg.Vote:
		ok = ok && k.h == api.Hard{Term: m.Term, Vote: id}
	case m.Kind == rmsg.App:
		ok = ok && k.h.Term == m.Term && k.has(m.Entries)
	case m.Kind == rmsg.Apped && m.Ok:
		ok = ok && k.h.Term == m.Term && m.Index <= k.s.Index+int64(len(k.l))
	}
	if !ok {
		c.t.Fatalf("%d said %+v, and has kept %+v", id, m, k)
	}
}

// hears takes what a member's call has come to, or lets it be gone.
func (c *cluster) hears(id int, o member.Out, e api.Errno) bool {
	c.t.Helper()
	m := c.m[id]
	if e == api.ErrLost {
		alike(c.t, []any{member.Out{}, true, true}, []any{o, c.d[id].Lost(), m.Gone()})
		return false
	}
	mustBe(c.t, api.OK, e)
	k := safe(c.t, c.d[id])
	c.said[id] = k
	s := m.State()
	alike(c.t, []any{s.Hard, s.Base, s.Last}, []any{k.h, k.s.Index, k.s.Index + int64(len(k.l))})
	for _, x := range o.Msgs {
		c.stands(id, k, x)
	}
	if o.Snap.Index > 0 {
		c.snaps++
		c.holdSnap(o.Snap)
		alike(c.t, o.Snap, k.s)
		if o.Snap.Index <= c.applied[id] {
			c.t.Fatalf("a snap of %d, and %d were applied", o.Snap.Index, c.applied[id])
		}
		c.applied[id] = o.Snap.Index
	}
	for _, x := range o.Entries {
		c.apply(id, x)
	}
	alike(c.t, []int64{c.applied[id], s.Commit}, []int64{m.Applied(), c.applied[id]})
	if !k.has(o.Entries) {
		c.t.Fatalf("%d told %+v, and has kept %+v", id, o.Entries, k)
	}
	c.reads(id, s, o.Reads)
	c.flight = append(c.flight, o.Msgs...)
	return true
}

// reads holds that reads that are told are of all that was applied anywhere when they were asked for.
func (c *cluster) reads(id int, s raft.State, l []raft.Read) {
	c.t.Helper()
	for _, x := range l {
		least, ok := c.asked[id][x.Ctx]
		if !ok || x.Index < least {
			c.t.Fatalf("%d told %+v, and %d was applied: %v", id, x, least, ok)
		}
		delete(c.asked[id], x.Ctx)
		c.told++
	}
	if s.Role != leader {
		c.asked[id] = nil
	}
}

// do lets a member do something, if it isn't gone; else it is opened again, in the end.
func (c *cluster) do(id int, do func(m *member.Member) (member.Out, api.Errno)) {
	c.t.Helper()
	if c.m[id].Gone() {
		o, e := do(c.m[id])
		alike(c.t, []any{member.Out{}, api.ErrLost}, []any{o, e})
		return
	}
	o, e := do(c.m[id])
	c.hears(id, o, e)
}

func (c *cluster) tick(id int) {
	c.t.Helper()
	c.do(id, func(m *member.Member) (member.Out, api.Errno) { return m.Tick() })
}

func (c *cluster) propose(id int, data string) {
	c.t.Helper()
	if c.m[id].State().Role != leader {
		return
	}
	c.do(id, func(m *member.Member) (member.Out, api.Errno) {
		_, _, o, e := m.Propose([]byte(data))
		return o, e
	})
}

// ask asks a leader for a read, which is to be told of all that is applied anywhere.
func (c *cluster) ask(id int) {
	c.t.Helper()
	m := c.m[id]
	if m.Gone() || m.State().Role != leader {
		return
	}
	if term := m.State().Hard.Term; c.term[id] != term || c.asked[id] == nil {
		c.asked[id], c.term[id] = map[int64]int64{}, term
	}
	least := int64(len(c.log))
	ctx, o, e := m.Read()
	if e == api.ErrBusy {
		alike(c.t, member.Out{}, o)
		return
	}
	c.asked[id][ctx] = least
	c.hears(id, o, e)
}

// compact lets a member's snap stand for what it has applied.
func (c *cluster) compact(id int) {
	c.t.Helper()
	m := c.m[id]
	if m.Gone() {
		return
	}
	at := m.Applied()
	if at == m.State().Base {
		mustBe(c.t, api.ErrNone, m.Compact(nil))
		return
	}
	c.compacts++
	if c.hears(id, member.Out{}, m.Compact([]byte(c.sums[at]))) {
		alike(c.t, []any{at, c.sums[at]}, []any{c.said[id].s.Index, string(c.said[id].s.Data)})
	}
}

// come lets one of the messages that are under way come, be lost, or come and stay.
func (c *cluster) come() {
	c.t.Helper()
	if len(c.flight) == 0 {
		return
	}
	k := c.Intn(min(len(c.flight), 1+c.Intn(40)))
	m := c.flight[k]
	if c.Intn(10) > 0 {
		c.flight = slices.Delete(c.flight, k, k+1)
	}
	if c.cut[[2]int{m.From, m.To}] || c.Intn(12) == 0 {
		return
	}
	c.hear(m)
}

func (c *cluster) hear(x rmsg.Msg) {
	c.t.Helper()
	c.do(x.To, func(m *member.Member) (member.Out, api.Errno) { return m.Step(x) })
}

// anew lets a member begin anew, whatever of what its disk still had to make safe stays.
func (c *cluster) anew(id int) {
	c.t.Helper()
	if c.m[id].Gone() {
		c.powers++
	}
	c.d[id].Restart(c.Intn(1000), c.Intn(1000))
	c.open(id)
}

// turn does one thing, whatever it is.
func (c *cluster) turn() {
	c.t.Helper()
	id := c.Intn(c.n)
	switch k := c.Intn(100); {
	case k < 20:
		c.tick(id)
	case k < 78:
		c.come()
	case k < 84:
		for id := range c.n {
			c.propose(id, fmt.Sprint(c.Intn(1000000)))
		}
	case k < 89:
		for id := range c.n {
			c.ask(id)
		}
	case k < 92:
		c.compact(id)
	case k < 95:
		if !c.m[id].Gone() {
			mustBe(c.t, api.OK, c.d[id].Fuse(c.Intn(12)))
		}
	case k < 97:
		if c.m[id].Gone() || c.Intn(10) == 0 {
			c.anew(id)
		}
	case k < 98:
		c.cut[[2]int{id, c.Intn(c.n)}] = true
	default:
		clear(c.cut)
	}
	if over := len(c.flight) - 200; over > 0 {
		c.flight = c.flight[over:]
	}
}

// calm lets rounds go by in which nothing is lost: all tick, and all that is said comes.
func (c *cluster) calm(rounds int) {
	c.t.Helper()
	for range rounds {
		for id := range c.n {
			c.tick(id)
		}
		for came := 0; len(c.flight) > 0; came++ {
			if came > 50000 {
				c.t.Fatal("they never fall silent")
			}
			m := c.flight[0]
			c.flight = c.flight[1:]
			c.hear(m)
		}
	}
}

// goOn holds that, when all members are there and nothing is lost, what is added comes to be applied by all.
func (c *cluster) goOn() {
	c.t.Helper()
	clear(c.cut)
	for id := range c.n {
		c.anew(id)
	}
	c.calm(60)
	for k := range 5 {
		for id := range c.n {
			c.propose(id, fmt.Sprint("calm ", k))
		}
	}
	told := c.told
	for id := range c.n {
		c.ask(id)
	}
	c.calm(4)
	if c.told != told+1 {
		c.t.Fatal("a read isn't told")
	}
	alike(c.t, "calm 4", string(c.log[len(c.log)-1].Data))
	for id, m := range c.m {
		alike(c.t, []any{int64(len(c.log)), false}, []any{m.Applied(), m.Gone()})
		alike(c.t, int64(len(c.log)), c.applied[id])
	}
}

// P13.2: clusters of one to three, whose members hear each other, in which messages come, are lost, come late and twice, the power of disks goes within any call, members begin anew, and compact their logs: all of them apply the same entries, in the same order; what one says is kept by it, and it has it when it is opened again; a snap is of what was applied; a read is told of all that was applied when it was asked for. When all is calm, all that is added is applied by all.
func TestCluster(t *testing.T) {
	for n := 1; n <= 3; n++ {
		sum := cluster{}
		log := 0
		for seed := range int64(25 * n) {
			c := newCluster(t, seed, n)
			for range 3 {
				for range 1000 {
					c.turn()
				}
				c.goOn()
			}
			log += len(c.log)
			sum.snaps, sum.powers, sum.compacts, sum.told = sum.snaps+c.snaps, sum.powers+c.powers, sum.compacts+c.compacts, sum.told+c.told
		}
		t.Logf("of %d: %d entries, %d snaps, %d losses of power, %d compactions, %d reads", n, log, sum.snaps, sum.powers, sum.compacts, sum.told)
		if log < 1000 || n == 3 && sum.snaps < 60 || sum.powers < 200 || sum.compacts < 300 || sum.told < 200 {
			t.Errorf("of %d: too little was done", n)
		}
	}
}
