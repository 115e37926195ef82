package member_test

import (
	"fmt"
	"math/rand"
	"testing"

	"decamp/api"
	"decamp/disk"
	"decamp/member"
	"decamp/raft"
	"decamp/rmsg"
	"decamp/vault"
)

// model is a member as the chapter's words have it, made of the layers below.
type model struct {
	d       *disk.Disk
	v       *vault.Vault
	r       *raft.Raft
	applied int64
	gone    bool
}

// open answers the model of what a disk has, or none, and its snap.
func open(id, n int, d *disk.Disk) (*model, api.Snap, api.Errno) {
	v, h, s, l, e := vault.Open(d)
	if e != api.OK {
		return nil, api.Snap{}, e
	}
	r, e := raft.New(id, n, h, s, l)
	if e != api.OK {
		return nil, api.Snap{}, e
	}
	return &model{d: d, v: v, r: r, applied: s.Index}, s, api.OK
}

// out is what the model tells behind something that was done, and answered that, with its numbers.
func (m *model) out(e api.Errno, numbers ...any) (string, api.Errno) {
	if e != api.OK {
		return nothing, e
	}
	o := m.r.Take()
	if o.Snap.Index > 0 {
		e = m.v.Keep(o.Hard, o.Snap, m.r.Entries(o.Snap.Index+1, top))
	} else {
		e = m.v.Save(o.Hard, o.Fresh)
	}
	if e != api.OK {
		m.gone = true
		return nothing, e
	}
	m.applied = max(m.applied, o.Snap.Index)
	got := member.Out{Msgs: o.Msgs, Snap: o.Snap, Reads: o.Reads}
	for m.applied < m.r.State().Commit {
		m.applied++
		got.Entries = append(got.Entries, m.r.Entries(m.applied, m.applied)...)
	}
	return all(append(numbers, got)...), api.OK
}

// compact is the model's Compact.
func (m *model) compact(data []byte) api.Errno {
	if m.r.State().Base == m.applied {
		return api.ErrNone
	}
	if e := m.r.Compact(m.applied, data); e != api.OK {
		return e
	}
	e := m.v.Keep(m.r.Take().Hard, m.r.Snap(), m.r.Entries(m.applied+1, top))
	m.gone = e != api.OK
	return e
}

// pair are a member and its model, in random turns.
type pair struct {
	*rand.Rand
	t     *testing.T
	id, n int
	m     *member.Member
	d     *disk.Disk
	// room is that of both disks.
	room  int
	model *model
	// came counts what came of calls.
	came map[string]int
}

// reopen opens both anew, and answers whether there was room for it.
func (p *pair) reopen() bool {
	p.t.Helper()
	m, s, e := member.Open(p.id, p.n, p.d)
	model, want, wantErr := open(p.id, p.n, p.model.d)
	alike(p.t, []any{want, wantErr, wantErr == api.OK}, []any{s, e, m != nil})
	alike(p.t, files(p.t, p.model.d), files(p.t, p.d))
	p.m, p.model = m, model
	return e == api.OK
}

// is holds that both are alike, and that what their disks have is.
func (p *pair) is() {
	p.t.Helper()
	alike(p.t, []any{p.model.r.State(), p.model.applied, p.model.gone}, []any{p.m.State(), p.m.Applied(), p.m.Gone()})
	alike(p.t, files(p.t, p.model.d), files(p.t, p.d))
}

// does lets both do something.
func (p *pair) does(c call, model func() (string, api.Errno)) {
	p.t.Helper()
	want, wantErr := nothing, api.ErrLost
	if !p.model.gone {
		want, wantErr = model()
	}
	got, e := c.do(p.m)
	alike(p.t, []any{want, wantErr}, []any{got, e})
	p.came[fmt.Sprintf("%.4s %v", c.name, e)]++
}

// data are some bytes, seldom too many.
func (p *pair) data(most int) []byte {
	if p.Intn(30) == 0 {
		return make([]byte, most+1)
	}
	return fmt.Append(nil, p.Intn(1000))
}

// message is one that another node may say; now and then it is wrong.
func (p *pair) message() rmsg.Msg {
	s := p.model.r.State()
	m := rmsg.Msg{Kind: 1 + p.Intn(7), From: next(p.id, max(p.n, 2)), To: p.id, Term: max(1, s.Hard.Term+int64(p.Intn(12)/5-p.Intn(8)/7))}
	if p.n == 3 && p.Intn(2) == 0 {
		m.From = next(m.From, 3)
	}
	if s.Role == poller && p.Intn(2) == 0 {
		m.Kind = rmsg.Polled
	}
	if s.Role == candidate && p.Intn(2) == 0 {
		m.Kind, m.Term = rmsg.Voted, s.Hard.Term
	}
	if s.Role == leader && p.Intn(2) == 0 {
		m.Kind, m.Term = rmsg.Apped, s.Hard.Term
	}
	index, term := p.place(s)
	switch m.Kind {
	case rmsg.Poll, rmsg.Vote:
		m.Index, m.LogTerm = max(0, s.Last+int64(p.Intn(3))-1), m.Term-1
	case rmsg.Polled, rmsg.Voted:
		m.Ok = p.Intn(4) > 0
		if m.Kind == rmsg.Polled && m.Ok {
			m.Term = s.Hard.Term + 1
		}
	case rmsg.App:
		m.Index, m.LogTerm, m.Commit, m.Ctx = index, term, max(0, index+int64(p.Intn(3))-1), int64(p.Intn(5))
		for k := range int64(p.Intn(5)) {
			term = max(term, 1, m.Term-int64(p.Intn(2)))
			m.Entries = append(m.Entries, entry(index+1+k, term, fmt.Sprint(p.Intn(1000))))
		}
	case rmsg.Apped:
		m.Ok, m.Index, m.Ctx = p.Intn(3) > 0, index, int64(p.Intn(5))
	case rmsg.Whole:
		m.Snap = snap(index+int64(p.Intn(3)), max(1, min(term, m.Term)))
		m.Snap.Data = append(m.Snap.Data, make([]byte, p.Intn(100))...)
	}
	return m
}

// place is somewhere about the model's log: an index, and mostly the term that it has there.
func (p *pair) place(s raft.State) (int64, int64) {
	index := max(0, s.Base+int64(p.Intn(int(s.Last-s.Base)+2))-int64(p.Intn(4)/3))
	if p.Intn(10) == 0 {
		return index, int64(p.Intn(4))
	}
	if snap := p.model.r.Snap(); index == snap.Index {
		return index, snap.Term
	}
	for _, x := range p.model.r.Entries(index, index) {
		return index, x.Term
	}
	return index, max(1, s.Hard.Term-1)
}

// turn does one thing to both.
func (p *pair) turn() {
	p.t.Helper()
	w := p.model
	switch k := p.Intn(100); {
	case k < 25:
		p.does(tickCall(), func() (string, api.Errno) { w.r.Tick(); return w.out(api.OK) })
	case k < 70 && (p.n > 1 || p.Intn(10) == 0):
		x := p.message()
		p.does(stepCall(x), func() (string, api.Errno) { return w.out(w.r.Step(x)) })
	case k < 85:
		data := p.data(most)
		p.does(proposeCall(data), func() (string, api.Errno) {
			index, term, e := w.r.Propose(data)
			return w.out(e, index, term)
		})
	case k < 92:
		p.does(readCall(), func() (string, api.Errno) {
			ctx, e := w.r.Read()
			return w.out(e, ctx)
		})
	case k < 96:
		data := p.data(whole)
		p.does(compactCall(data), func() (string, api.Errno) { return nothing, w.compact(data) })
	case k < 97:
		n := p.Intn(30)
		mustBe(p.t, w.d.Fuse(n), p.d.Fuse(n))
	}
	if w.gone && p.Intn(5) == 0 || p.Intn(100) == 0 {
		p.back()
	}
	p.is()
}

// back lets the power of both disks come back, and opens both anew; a disk on which there is hardly any room is another one's then.
func (p *pair) back() {
	p.t.Helper()
	keep := p.Intn(60)
	p.d.Restart(keep)
	p.model.d.Restart(keep)
	alike(p.t, files(p.t, p.model.d), files(p.t, p.d))
	if p.d.Used() > p.room*3/4 || !p.reopen() {
		p.begin()
	}
}

// begin lets both begin with empty disks.
func (p *pair) begin() {
	p.t.Helper()
	p.room = 120 + p.Intn(600)
	p.d = newDisk(p.t, p.room)
	p.model = &model{d: newDisk(p.t, p.room)}
	alike(p.t, true, p.reopen())
}

// P13.1: a member in random turns is as the chapter's words have it: all that it answers, its state, and all that lies on its disk, byte by byte, wherever the power goes, and where there is no more room.
func TestModel(t *testing.T) {
	came := map[string]int{}
	for seed := range int64(200) {
		p := &pair{Rand: rand.New(rand.NewSource(seed)), t: t, n: 3 - int(seed%5)/2, came: came}
		p.id = p.Intn(p.n)
		p.begin()
		for range 400 {
			p.turn()
		}
	}
	for name, l := range map[string][]api.Errno{
		"Tick": {api.OK, api.ErrLost},
		"Step": {api.OK, api.ErrLost, api.ErrFull, api.ErrArg},
		"Prop": {api.OK, api.ErrLost, api.ErrFull, api.ErrArg, api.ErrAway},
		"Read": {api.OK, api.ErrLost, api.ErrAway, api.ErrBusy},
		"Comp": {api.OK, api.ErrLost, api.ErrFull, api.ErrArg, api.ErrNone},
	} {
		for _, e := range l {
			many := came[fmt.Sprintf("%s %v", name, e)]
			if many < 10 {
				t.Errorf("%s answered %v but %d times", name, e, many)
			}
		}
	}
}
