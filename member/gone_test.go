package member_test

import (
	"fmt"
	"slices"
	"testing"

	"decamp/api"
	"decamp/disk"
	"decamp/member"
	"decamp/rmsg"
)

// scene is a call that writes to the disk, and the member to which it is done.
type scene struct {
	name  string
	begin func(t *testing.T) (*member.Member, *disk.Disk)
	call  call
	// deeds is how many of the disk's the call takes.
	deeds int
	// snaps tells that a snap is kept by it.
	snaps bool
}

// small is a disk of little room, which is soon filled.
func small(t *testing.T, id, n int, k kept) (*member.Member, *disk.Disk) {
	t.Helper()
	d := laid(t, 4000, k)
	return opens(t, id, n, d), d
}

// of begins with a member of id and n of what was kept before, that has done this.
func of(id, n int, do func(t *testing.T, m *member.Member)) func(t *testing.T) (*member.Member, *disk.Disk) {
	return func(t *testing.T) (*member.Member, *disk.Disk) {
		t.Helper()
		m, d := small(t, id, n, before())
		do(t, m)
		return m, d
	}
}

// How many deeds a Save takes, and a Keep without and with what is hard.
const (
	save     = 2
	keep     = 6
	keepHard = 8
)

func scenes() []scene {
	idle := func(*testing.T, *member.Member) {}
	rises := func(t *testing.T, m *member.Member) { step(t, m, app(4, 4, 2)) }
	leads := func(n int) func(t *testing.T, m *member.Member) {
		return func(t *testing.T, m *member.Member) { lead(t, m, 0, n) }
	}
	great := snap(9, 5)
	great.Data = make([]byte, 300)
	return []scene{
		{"an entry of one alone", of(0, 1, func(t *testing.T, m *member.Member) { ticks(t, m, patience-1) }), tickCall(), save, false},
		{"a vote", of(0, 3, idle), stepCall(rmsg.Msg{Kind: rmsg.Vote, From: 1, Term: 6, Index: 4, LogTerm: 4}), save, false},
		{"a later term", of(0, 3, idle), stepCall(app(4, 4, 4)), save, false},
		{"an entry", of(0, 3, rises), stepCall(app(4, 4, 5, run(4, 5)...)), save, false},
		{"entries in another one's place, and a term", of(0, 3, idle), stepCall(app(3, 3, 5, run(3, 5, 5, 5)...)), save, false},
		{"a candidacy", of(0, 3, func(t *testing.T, m *member.Member) { ticks(t, m, patience) }), stepCall(rmsg.Msg{Kind: rmsg.Polled, From: 1, Term: 5, Ok: true}), save, false},
		{"a victory", of(0, 3, func(t *testing.T, m *member.Member) {
			ticks(t, m, patience)
			step(t, m, rmsg.Msg{Kind: rmsg.Polled, From: 1, Term: 5, Ok: true})
		}), stepCall(rmsg.Msg{Kind: rmsg.Voted, From: 2, Term: 5, Ok: true}), save, false},
		{"a snap", of(0, 3, rises), stepCall(sent(snap(9, 5))), keep, true},
		{"a snap, and a term", of(0, 3, idle), stepCall(sent(snap(9, 5))), keepHard, true},
		{"a great snap at the log's end", of(0, 2, idle), stepCall(sent(api.Snap{Index: 4, Term: 5, Data: great.Data})), keepHard, true},
		{"an entry of a leader of one", of(0, 1, leads(1)), proposeCall([]byte("a")), save, false},
		{"an entry of a leader of three", of(0, 3, leads(3)), proposeCall([]byte("a")), save, false},
		{"all of one alone", of(0, 1, leads(1)), compactCall([]byte("five")), keep, true},
		{"some of a leader's", of(0, 3, func(t *testing.T, m *member.Member) {
			lead(t, m, 0, 3)
			propose(t, m, "a", 6)
			step(t, m, apped(1, true, 5, 0))
			propose(t, m, "b", 7)
		}), compactCall([]byte("five")), keep, true},
		{"some of a follower's", of(0, 3, func(t *testing.T, m *member.Member) { step(t, m, app(4, 4, 3)) }), compactCall(great.Data), keep, true},
	}
}

// may are all that a disk may have, if a call is cut short by which it comes from that to this.
func (c scene) may(was, is kept) []kept {
	hard := was
	hard.h = is.h
	l := []kept{was, hard}
	if c.snaps {
		behind := kept{h: is.h, s: is.s}
		for n, x := range was.l {
			if x.Index == is.s.Index && x.Term == is.s.Term {
				behind.l = was.l[n+1:]
			}
		}
		return append(l, behind, is)
	}
	same := 0
	for same < min(len(was.l), len(is.l)) && was.l[same].Term == is.l[same].Term {
		same++
	}
	for n := same + 1; n <= len(is.l); n++ {
		l = append(l, kept{h: is.h, s: is.s, l: is.l[:n]})
	}
	return l
}

// isGone holds what there is to a member that is gone: all that its calls answer, and that they leave its disk alone.
func isGone(t *testing.T, m *member.Member, d *disk.Disk, state string, applied int64) {
	t.Helper()
	was := files(t, d)
	for _, c := range every() {
		got, e := c.do(m)
		alike(t, []any{nothing, api.ErrLost}, []any{got, e})
		alike(t, []any{state, applied, true}, []any{fmt.Sprintf("%+v", m.State()), m.Applied(), m.Gone()})
	}
	alike(t, was, files(t, d))
}

// found holds that a disk, whose power came back, has one of these; that a member which is opened again has it, too; and that it goes on. It answers what there is.
func found(t *testing.T, d *disk.Disk, n int, may []kept) kept {
	t.Helper()
	k := safe(t, d)
	if !slices.ContainsFunc(may, func(other kept) bool { return fmt.Sprint(other) == fmt.Sprint(k) }) {
		t.Fatalf("%+v\nwhich is none of\n%+v", k, may)
	}
	m, s, e := member.Open(0, n, d)
	mustBe(t, api.OK, e)
	alike(t, k.s, s)
	last := k.s.Index + int64(len(k.l))
	alike(t, []any{k.h, k.s.Index, last, k.s.Index, false}, []any{m.State().Hard, m.State().Base, m.State().Last, m.Applied(), m.Gone()})
	keeps(t, d, k)
	lead(t, m, 0, n)
	own := entry(last+1, k.h.Term+1, "")
	keeps(t, d, kept{api.Hard{Term: k.h.Term + 1}, k.s, append(slices.Clone(k.l), own)})
	return k
}

// restarts are disks as d, which is lost, may be when the power comes back: one file at most has bytes that wait.
func restarts(t *testing.T, d *disk.Disk) []*disk.Disk {
	t.Helper()
	whole := d.Clone()
	whole.Restart(-1, -1, -1, -1)
	var l []*disk.Disk
	for keep := range whole.Used() - safeBytes(d) + 1 {
		c := d.Clone()
		c.Restart(keep)
		l = append(l, c)
	}
	return l
}

// safeBytes are how many bytes of all files are safe.
func safeBytes(d *disk.Disk) int {
	n := 0
	for _, name := range d.Names() {
		n += d.Safe(name)
	}
	return n
}

// P13.1, P13.2: wherever the power goes within a call: it answers ErrLost and nothing else, the member is gone, and has applied what it had; its State is what the node had come to. Opened again, it has all that was kept ahead of the call, and perhaps what is new in part.
func TestPowerGoes(t *testing.T) {
	for _, c := range scenes() {
		t.Run(c.name, func(t *testing.T) {
			m, d := c.begin(t)
			n := len(m.State().Next)
			was, applied := safe(t, d), m.Applied()
			want, e := c.call.do(m)
			mustBe(t, api.OK, e)
			is, state := safe(t, d), fmt.Sprintf("%+v", m.State())
			reached := map[string]bool{}
			for fuse := 0; ; fuse++ {
				m, d := c.begin(t)
				mustBe(t, api.OK, d.Fuse(fuse))
				got, e := c.call.do(m)
				if !d.Lost() {
					alike(t, []any{want, api.OK, fuse}, []any{got, e, c.deeds})
					break
				}
				alike(t, []any{nothing, api.ErrLost}, []any{got, e})
				isGone(t, m, d, state, applied)
				for _, again := range restarts(t, d) {
					reached[fmt.Sprint(found(t, again, n, c.may(was, is)))] = true
				}
				// It stays gone, whatever becomes of its disk.
				d.Restart()
				isGone(t, m, d, state, applied)
			}
			if !reached[fmt.Sprint(was)] || !reached[fmt.Sprint(is)] {
				t.Error("the power went too seldom")
			}
		})
	}
}

// P13.1: where there is no room for what is to be kept, the call answers ErrFull, and it is as if the power had gone.
func TestFull(t *testing.T) {
	for _, c := range scenes() {
		t.Run(c.name, func(t *testing.T) {
			m, d := c.begin(t)
			n := len(m.State().Next)
			was, applied, used := safe(t, d), m.Applied(), d.Used()
			want, e := c.call.do(m)
			mustBe(t, api.OK, e)
			is, state := safe(t, d), fmt.Sprintf("%+v", m.State())
			for room := 0; ; room++ {
				m, d := c.begin(t)
				mustBe(t, api.OK, d.Append("filler", make([]byte, 4000-used-room)))
				mustBe(t, api.OK, d.Sync("filler"))
				got, e := c.call.do(m)
				if e == api.OK {
					alike(t, want, got)
					keeps(t, d, is)
					if room < 20 {
						t.Error("there was room for it at once", room)
					}
					break
				}
				alike(t, []any{nothing, api.ErrFull}, []any{got, e})
				isGone(t, m, d, state, applied)
				mustBe(t, api.OK, d.Remove("filler"))
				isGone(t, m, d, state, applied)
				found(t, d, n, c.may(was, is))
			}
		})
	}
}

// P13.1, Open: of a disk of too little room there is a member, as long as nothing is to be kept.
func TestNoRoom(t *testing.T) {
	d := newDisk(t, 0)
	m := opens(t, 0, 1, d)
	alike(t, member.Out{}, ticks(t, m, patience-1))
	o, e := m.Tick()
	alike(t, []any{member.Out{}, api.ErrFull}, []any{o, e})
	if !m.Gone() || m.Applied() != 0 || m.State().Role != leader || m.State().Commit != 1 {
		t.Error(m.Gone(), m.Applied(), m.State())
	}
	o, e = m.Tick()
	alike(t, []any{member.Out{}, api.ErrLost}, []any{o, e})
}

// P13.1: where nothing is to be kept, nothing is written, so that it is told though the disk is lost; the member goes with the first thing that is.
func TestLostUnnoticed(t *testing.T) {
	m, d := leading(t, 3)
	step(t, m, apped(1, true, 5, 0))
	twin, _ := leading(t, 3)
	step(t, twin, apped(1, true, 5, 0))
	lose(t, d)
	for _, c := range []call{tickCall(), readCall(), tickCall(), stepCall(apped(2, false, 3, 1)), stepCall(apped(2, true, 5, 1)), tickCall(), stepCall(rmsg.Msg{Kind: rmsg.Poll, From: 2, Term: 6})} {
		want, e := c.do(twin)
		mustBe(t, api.OK, e)
		got, e := c.do(m)
		alike(t, []any{want, api.OK, false}, []any{got, e, m.Gone()})
	}
	// What is refused ahead of being done doesn't let it be gone.
	for _, c := range []call{proposeCall(make([]byte, most+1)), stepCall(rmsg.Msg{})} {
		got, e := c.do(m)
		alike(t, []any{nothing, api.ErrArg, false}, []any{got, e, m.Gone()})
	}
	mustBe(t, api.ErrArg, m.Compact(make([]byte, whole+1)))
	alike(t, false, m.Gone())
	got, e := proposeCall(nil).do(m)
	alike(t, []any{nothing, api.ErrLost, true}, []any{got, e, m.Gone()})
}
