package member_test

import (
	"fmt"
	"slices"
	"testing"

	"decamp/api"
	"decamp/disk"
	"decamp/member"
	"decamp/raft"
	"decamp/rmsg"
	"decamp/vault"
)

// What the document names, written out, so that these tests hold it too.
const (
	top      = 1 << 40
	most     = 12000
	whole    = 50000
	beat     = 2
	patience = 6
)

// The roles, as State tells them.
const (
	follower = iota
	poller
	candidate
	leader
)

// alike holds that two things are told alike: lists without elements are, nil or not.
func alike(t *testing.T, want, got any) {
	t.Helper()
	if w, g := fmt.Sprintf("%+v", want), fmt.Sprintf("%+v", got); w != g {
		t.Fatalf("%.1000s\nwant\n%.1000s", g, w)
	}
}

func mustBe(t *testing.T, want, got api.Errno) {
	t.Helper()
	if got != want {
		t.Fatalf("%v, want %v", got, want)
	}
}

// entry is one of these Data.
func entry(index, term int64, data string) api.Entry {
	return api.Entry{Index: index, Term: term, Data: []byte(data)}
}

// run are entries behind an index, of these terms, whose Data tell where they stand.
func run(index int64, terms ...int64) []api.Entry {
	var l []api.Entry
	for n, term := range terms {
		at := index + 1 + int64(n)
		l = append(l, entry(at, term, fmt.Sprintf("%d/%d", at, term)))
	}
	return l
}

// snap is one whose Data tell of what it is.
func snap(index, term int64) api.Snap {
	return api.Snap{Index: index, Term: term, Data: fmt.Appendf(nil, "snap %d/%d", index, term)}
}

func newDisk(t *testing.T, room int) *disk.Disk {
	t.Helper()
	d, e := disk.New(room)
	mustBe(t, api.OK, e)
	return d
}

// kept is what a vault has.
type kept struct {
	h api.Hard
	s api.Snap
	l []api.Entry
}

// unborn is what is hard of a node that has kept nothing.
var unborn = api.Hard{Vote: -1}

// laid is a disk whose vault has that.
func laid(t *testing.T, room int, k kept) *disk.Disk {
	t.Helper()
	d := newDisk(t, room)
	v, _, _, _, e := vault.Open(d)
	mustBe(t, api.OK, e)
	if k.s.Index > 0 {
		mustBe(t, api.OK, v.Keep(k.h, k.s, k.l))
	} else {
		mustBe(t, api.OK, v.Save(k.h, k.l))
	}
	return d
}

// safe is what the vault of a disk has, if the power goes now, and nothing that waits stays.
func safe(t *testing.T, d *disk.Disk) kept {
	t.Helper()
	c := d.Clone()
	c.Restart()
	_, h, s, l, e := vault.Open(c)
	mustBe(t, api.OK, e)
	return kept{h, s, l}
}

// keeps holds that a disk has that, whatever happens to it.
func keeps(t *testing.T, d *disk.Disk, want kept) {
	t.Helper()
	alike(t, want, safe(t, d))
}

// files are those of a disk, lost or not: each with its bytes, and how many of them are safe.
func files(t *testing.T, d *disk.Disk) string {
	t.Helper()
	all := d.Clone()
	if d.Lost() {
		all.Restart(slices.Repeat([]int{-1}, len(d.Names()))...)
	}
	text := ""
	for _, name := range d.Names() {
		b, e := all.Read(name)
		mustBe(t, api.OK, e)
		text += fmt.Sprintf("%s: %d of %q\n", name, d.Safe(name), b)
	}
	return text
}

// lose lets the power of a disk go, whose files stay as they are.
func lose(t *testing.T, d *disk.Disk) {
	t.Helper()
	mustBe(t, api.OK, d.Fuse(0))
	mustBe(t, api.ErrLost, d.Append("~", nil))
}

// opens makes a member.
func opens(t *testing.T, id, n int, d *disk.Disk) *member.Member {
	t.Helper()
	m, _, e := member.Open(id, n, d)
	mustBe(t, api.OK, e)
	return m
}

// begins makes a member of what is kept, and its disk.
func begins(t *testing.T, id, n int, k kept) (*member.Member, *disk.Disk) {
	t.Helper()
	d := laid(t, api.MaxRoom, k)
	return opens(t, id, n, d), d
}

// next is the node behind another one, of n.
func next(id, n int) int { return (id + 1) % n }

// ticks lets so many of them go by, and answers what the last one came to.
func ticks(t *testing.T, m *member.Member, many int) member.Out {
	t.Helper()
	var out member.Out
	for range many {
		o, e := m.Tick()
		mustBe(t, api.OK, e)
		out = o
	}
	return out
}

// step lets a member hear what is right.
func step(t *testing.T, m *member.Member, x rmsg.Msg) member.Out {
	t.Helper()
	o, e := m.Step(x)
	mustBe(t, api.OK, e)
	return o
}

// propose adds an entry of these Data, and holds its index.
func propose(t *testing.T, m *member.Member, data string, index int64) member.Out {
	t.Helper()
	i, term, o, e := m.Propose([]byte(data))
	alike(t, []any{index, m.State().Hard.Term, api.OK}, []any{i, term, e})
	return o
}

// read asks for one, and holds its number.
func read(t *testing.T, m *member.Member, ctx int64) member.Out {
	t.Helper()
	c, o, e := m.Read()
	alike(t, []any{ctx, api.OK}, []any{c, e})
	return o
}

// lead lets a member that was just opened lead, by the yeses of the next one.
func lead(t *testing.T, m *member.Member, id, n int) {
	t.Helper()
	ticks(t, m, patience+3*id)
	if n > 1 {
		term := m.State().Hard.Term + 1
		step(t, m, rmsg.Msg{Kind: rmsg.Polled, From: next(id, n), To: id, Term: term, Ok: true})
		step(t, m, rmsg.Msg{Kind: rmsg.Voted, From: next(id, n), To: id, Term: term, Ok: true})
	}
	if s := m.State(); s.Role != leader {
		t.Fatalf("%+v is no leader", s)
	}
}

// apped is what the node 0, a leader of Term 5, is told by another one.
func apped(from int, ok bool, index, ctx int64) rmsg.Msg {
	return rmsg.Msg{Kind: rmsg.Apped, From: from, Term: 5, Ok: ok, Index: index, Ctx: ctx}
}

// app is what the node 0 is sent by the node 1, of Term 5.
func app(index, term, commit int64, l ...api.Entry) rmsg.Msg {
	return rmsg.Msg{Kind: rmsg.App, From: 1, Term: 5, Index: index, LogTerm: term, Commit: commit, Ctx: 7, Entries: l}
}

// sent is a snap that the node 0 is sent by the node 1, of Term 5.
func sent(s api.Snap) rmsg.Msg { return rmsg.Msg{Kind: rmsg.Whole, From: 1, Term: 5, Snap: s} }

// answer is what the node 0 says to that.
func answer(ok bool, index, ctx int64) rmsg.Msg {
	return rmsg.Msg{Kind: rmsg.Apped, To: 1, Term: 5, Ok: ok, Index: index, Ctx: ctx}
}

// before is what the members of most tests have kept.
func before() kept {
	return kept{api.Hard{Term: 4, Vote: 2}, snap(2, 2), run(2, 3, 4)}
}

// leading makes the node 0 of n lead in Term 5, with what was kept before, and then its own entry.
func leading(t *testing.T, n int) (*member.Member, *disk.Disk) {
	t.Helper()
	m, d := begins(t, 0, n, before())
	lead(t, m, 0, n)
	return m, d
}

// call is one of a member's, with all that it answers but its error.
type call struct {
	name string
	do   func(m *member.Member) (string, api.Errno)
}

// nothing is what a call answers beside an error.
const nothing = "nothing"

// all tells what a call answered.
func all(l ...any) string {
	text := fmt.Sprintf("%+v", l)
	for _, zero := range []string{
		fmt.Sprintf("%+v", []any{member.Out{}}),
		fmt.Sprintf("%+v", []any{0, member.Out{}}),
		fmt.Sprintf("%+v", []any{0, 0, member.Out{}}),
	} {
		if text == zero {
			return nothing
		}
	}
	return text
}

func tickCall() call {
	return call{"Tick", func(m *member.Member) (string, api.Errno) {
		o, e := m.Tick()
		return all(o), e
	}}
}

func stepCall(x rmsg.Msg) call {
	return call{fmt.Sprintf("Step %.60s", fmt.Sprintf("%+v", x)), func(m *member.Member) (string, api.Errno) {
		o, e := m.Step(x)
		return all(o), e
	}}
}

func proposeCall(data []byte) call {
	return call{"Propose", func(m *member.Member) (string, api.Errno) {
		index, term, o, e := m.Propose(data)
		return all(index, term, o), e
	}}
}

func readCall() call {
	return call{"Read", func(m *member.Member) (string, api.Errno) {
		ctx, o, e := m.Read()
		return all(ctx, o), e
	}}
}

func compactCall(data []byte) call {
	return call{"Compact", func(m *member.Member) (string, api.Errno) { return nothing, m.Compact(data) }}
}

// every are all of a member's calls that answer an error, with right arguments and with wrong ones.
func every() []call {
	return []call{
		tickCall(),
		stepCall(app(4, 4, 4)), stepCall(sent(snap(9, 5))), stepCall(rmsg.Msg{Kind: rmsg.Vote, From: 1, Term: 9}), stepCall(rmsg.Msg{}),
		proposeCall(nil), proposeCall([]byte("a")), proposeCall(make([]byte, most+1)),
		readCall(),
		compactCall(nil), compactCall([]byte("a")), compactCall(make([]byte, whole+1)),
	}
}

// R1: of a nil member every call answers ErrArg, or zero.
func TestNil(t *testing.T) {
	var m *member.Member
	for _, c := range every() {
		got, e := c.do(m)
		alike(t, []any{nothing, api.ErrArg}, []any{got, e})
	}
	alike(t, raft.State{}, m.State())
	alike(t, []any{int64(0), false}, []any{m.Applied(), m.Gone()})
}

// The chapter's example: one of one leads behind six ticks; its first entry is kept and applied.
func TestExample(t *testing.T) {
	d := newDisk(t, api.MaxRoom)
	m, s, e := member.Open(0, 1, d)
	mustBe(t, api.OK, e)
	alike(t, api.Snap{}, s)
	for range patience - 1 {
		alike(t, member.Out{}, ticks(t, m, 1))
	}
	alike(t, []any{0, int64(0), ""}, []any{m.State().Role, m.Applied(), files(t, d)})
	first := entry(1, 1, "")
	alike(t, member.Out{Entries: []api.Entry{first}}, ticks(t, m, 1))
	alike(t, []any{leader, int64(1), false}, []any{m.State().Role, m.Applied(), m.Gone()})
	keeps(t, d, kept{h: api.Hard{Term: 1}, l: []api.Entry{first}})
	alike(t, member.Out{}, ticks(t, m, 20))
}
