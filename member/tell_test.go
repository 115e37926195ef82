package member_test

import (
	"testing"

	"decamp/api"
	"decamp/member"
	"decamp/raft"
	"decamp/rmsg"
)

// to is a message to each of those nodes, in order.
func to(from int, m rmsg.Msg, nodes ...int) []rmsg.Msg {
	var l []rmsg.Msg
	for _, node := range nodes {
		m.From, m.To = from, node
		l = append(l, m)
	}
	return l
}

// P13.1, Tick: who waits long enough polls, which is said, and nothing of it is to be kept; a yes makes it a candidate, another one a leader, both of which are kept.
func TestTickPolls(t *testing.T) {
	for n := 2; n <= 3; n++ {
		for id := range n {
			m, d := begins(t, id, n, before())
			others := []int{}
			for node := range n {
				if node != id {
					others = append(others, node)
				}
			}
			for range patience + 3*id - 1 {
				alike(t, member.Out{}, ticks(t, m, 1))
			}
			was := files(t, d)
			asks := rmsg.Msg{Kind: rmsg.Poll, Term: 5, Index: 4, LogTerm: 4}
			alike(t, member.Out{Msgs: to(id, asks, others...)}, ticks(t, m, 1))
			alike(t, was, files(t, d))

			asks.Kind = rmsg.Vote
			got := step(t, m, rmsg.Msg{Kind: rmsg.Polled, From: others[0], To: id, Term: 5, Ok: true})
			alike(t, member.Out{Msgs: to(id, asks, others...)}, got)
			k := before()
			k.h = api.Hard{Term: 5, Vote: id}
			keeps(t, d, k)

			own := entry(5, 5, "")
			got = step(t, m, rmsg.Msg{Kind: rmsg.Voted, From: others[0], To: id, Term: 5, Ok: true})
			sends := rmsg.Msg{Kind: rmsg.App, Term: 5, Index: 4, LogTerm: 4, Commit: 2, Entries: []api.Entry{own}}
			alike(t, member.Out{Msgs: to(id, sends, others...)}, got)
			k.l = append(k.l, own)
			keeps(t, d, k)
			alike(t, []any{leader, int64(2), false}, []any{m.State().Role, m.Applied(), m.Gone()})

			was = files(t, d)
			alike(t, member.Out{}, ticks(t, m, beat-1))
			alike(t, member.Out{Msgs: to(id, sends, others...)}, ticks(t, m, 1))
			alike(t, was, files(t, d))
		}
	}
}

// P13.1, Step: what isn't for the node, or isn't right, is layer 12's error, nothing is told, and all stays as it is.
func TestStepErrors(t *testing.T) {
	for _, leads := range []bool{false, true} {
		m, d := begins(t, 0, 3, before())
		if leads {
			m, d = leading(t, 3)
		}
		was, s := files(t, d), m.State()
		for _, x := range []rmsg.Msg{
			{}, {Kind: rmsg.Vote}, {Kind: rmsg.Vote, From: 1}, {Kind: 8, From: 1, Term: 5},
			{Kind: rmsg.Vote, From: 1, To: 2, Term: 9}, {Kind: rmsg.Vote, From: 0, To: 1, Term: 9}, {Kind: rmsg.Vote, From: 3, Term: 9},
			{Kind: rmsg.Vote, From: 1, Term: top + 1}, {Kind: rmsg.Vote, From: 1, Term: 9, Ok: true},
			app(4, 4, 4, run(5, 5)...), app(4, 4, 4, run(4, 6)...), sent(api.Snap{}), sent(api.Snap{Index: 9}),
		} {
			o, e := m.Step(x)
			alike(t, []any{member.Out{}, api.ErrArg}, []any{o, e})
		}
		alike(t, []any{s, int64(2), false}, []any{m.State(), m.Applied(), m.Gone()})
		alike(t, member.Out{}, ticks(t, m, 1))
		alike(t, was, files(t, d))
	}
	m, _ := begins(t, 0, 2, before())
	o, e := m.Step(rmsg.Msg{Kind: rmsg.Vote, From: 2, Term: 9})
	alike(t, []any{member.Out{}, api.ErrArg}, []any{o, e})
	m, _ = begins(t, 0, 1, before())
	o, e = m.Step(app(4, 4, 4))
	alike(t, []any{member.Out{}, api.ErrArg}, []any{o, e})
}

// P13.1, Step: a vote is kept, and then said; a term that rises is kept as well, though nothing is said; what changes nothing writes nothing.
func TestStepHard(t *testing.T) {
	m, d := begins(t, 0, 3, before())
	vote := rmsg.Msg{Kind: rmsg.Vote, From: 1, Term: 6, Index: 4, LogTerm: 4}
	yes := rmsg.Msg{Kind: rmsg.Voted, To: 1, Term: 6, Ok: true}
	k := before()
	k.h = api.Hard{Term: 6, Vote: 1}
	alike(t, member.Out{Msgs: []rmsg.Msg{yes}}, step(t, m, vote))
	keeps(t, d, k)
	was := files(t, d)
	alike(t, member.Out{Msgs: []rmsg.Msg{yes}}, step(t, m, vote))
	alike(t, was, files(t, d))
	alike(t, member.Out{Msgs: []rmsg.Msg{{Kind: rmsg.Voted, To: 2, Term: 6}}}, step(t, m, rmsg.Msg{Kind: rmsg.Vote, From: 2, Term: 6, Index: 4, LogTerm: 4}))
	alike(t, member.Out{Msgs: []rmsg.Msg{{Kind: rmsg.Apped, To: 1, Term: 6}}}, step(t, m, app(4, 4, 4)))
	alike(t, was, files(t, d))
	alike(t, member.Out{}, step(t, m, rmsg.Msg{Kind: rmsg.Voted, From: 1, Term: 8}))
	k.h = api.Hard{Term: 8, Vote: -1}
	keeps(t, d, k)
}

// P13.1, Step: entries are kept, and then said to be there; they are told when they are committed, once each, in order.
func TestStepEntries(t *testing.T) {
	m, d := begins(t, 0, 3, before())
	k := before()
	k.h = api.Hard{Term: 5, Vote: -1}
	// The second one gives way, and one comes behind it.
	alike(t, member.Out{Msgs: []rmsg.Msg{answer(true, 5, 7)}}, step(t, m, app(3, 3, 0, run(3, 5, 5)...)))
	k.l = run(2, 3, 5, 5)
	keeps(t, d, k)
	alike(t, int64(2), m.Applied())
	was := files(t, d)
	alike(t, member.Out{Msgs: []rmsg.Msg{answer(true, 3, 7)}, Entries: run(2, 3)}, step(t, m, app(3, 3, 5)))
	alike(t, int64(3), m.Applied())
	alike(t, member.Out{Msgs: []rmsg.Msg{answer(true, 5, 7)}, Entries: run(3, 5, 5)}, step(t, m, app(5, 5, 9)))
	alike(t, int64(5), m.Applied())
	// What is committed stays, and isn't told once more.
	alike(t, member.Out{Msgs: []rmsg.Msg{answer(true, 5, 7)}}, step(t, m, app(3, 3, 9, run(3, 5, 5)...)))
	alike(t, member.Out{Msgs: []rmsg.Msg{answer(false, 5, 7)}}, step(t, m, app(8, 5, 9)))
	alike(t, was, files(t, d))
	// Kept and told in one.
	alike(t, member.Out{Msgs: []rmsg.Msg{answer(true, 9, 7)}, Entries: run(5, 5, 5, 5, 5)}, step(t, m, app(5, 5, 12, run(5, 5, 5, 5, 5)...)))
	alike(t, int64(9), m.Applied())
	k.l = run(2, 3, 5, 5, 5, 5, 5, 5)
	keeps(t, d, k)
}

// P13.1, Step: a snap that the log hasn't is kept, with no entries behind it, told, and applied; what comes behind it then is told from it on.
func TestStepSnap(t *testing.T) {
	m, d := begins(t, 0, 3, before())
	alike(t, member.Out{Msgs: []rmsg.Msg{answer(true, 9, 0)}, Snap: snap(9, 5)}, step(t, m, sent(snap(9, 5))))
	alike(t, []any{int64(9), int64(9), int64(9)}, []any{m.Applied(), m.State().Base, m.State().Commit})
	k := kept{h: api.Hard{Term: 5, Vote: -1}, s: snap(9, 5)}
	keeps(t, d, k)
	was := files(t, d)
	// Once more, or of less: nothing is kept or told.
	for _, s := range []api.Snap{snap(9, 5), snap(8, 4), snap(1, 1)} {
		alike(t, member.Out{Msgs: []rmsg.Msg{answer(true, 9, 0)}}, step(t, m, sent(s)))
	}
	alike(t, was, files(t, d))
	alike(t, member.Out{Msgs: []rmsg.Msg{answer(true, 11, 7)}, Entries: run(9, 5)}, step(t, m, app(9, 5, 10, run(9, 5, 5)...)))
	alike(t, int64(10), m.Applied())
	k.l = run(9, 5, 5)
	keeps(t, d, k)
	// Another one, by which entries that weren't told are passed over.
	alike(t, member.Out{Msgs: []rmsg.Msg{answer(true, 12, 0)}, Snap: snap(12, 5)}, step(t, m, sent(snap(12, 5))))
	alike(t, int64(12), m.Applied())
	keeps(t, d, kept{h: k.h, s: snap(12, 5)})
	m = opens(t, 0, 3, d)
	alike(t, int64(12), m.Applied())
}

// P13.1, Step: of a snap that is of what the log has, the entries up to it are told instead, and it isn't kept.
func TestStepSnapOfLog(t *testing.T) {
	m, d := begins(t, 0, 3, before())
	alike(t, member.Out{Msgs: []rmsg.Msg{answer(true, 3, 0)}, Entries: run(2, 3)}, step(t, m, sent(snap(3, 3))))
	alike(t, []any{int64(3), int64(2)}, []any{m.Applied(), m.State().Base})
	k := before()
	k.h = api.Hard{Term: 5, Vote: -1}
	keeps(t, d, k)
	alike(t, member.Out{Msgs: []rmsg.Msg{answer(true, 4, 0)}, Entries: run(3, 4)}, step(t, m, sent(snap(4, 4))))
	keeps(t, d, k)
}

// P13.1: Propose and Read of who doesn't lead, of too much Data, of an index that can't be: layer 12's error, nothing is told or kept.
func TestAskErrors(t *testing.T) {
	for n := 1; n <= 3; n++ {
		m, d := begins(t, 0, n, before())
		was := files(t, d)
		s := m.State()
		for _, data := range [][]byte{nil, []byte("a"), make([]byte, most+1)} {
			i, term, o, e := m.Propose(data)
			alike(t, []any{0, 0, member.Out{}, api.ErrAway}, []any{i, term, o, e})
		}
		ctx, o, e := m.Read()
		alike(t, []any{0, member.Out{}, api.ErrAway}, []any{ctx, o, e})
		alike(t, []any{s, was, false}, []any{m.State(), files(t, d), m.Gone()})

		m, d = leading(t, n)
		was = files(t, d)
		s = m.State()
		i, term, o, e := m.Propose(make([]byte, most+1))
		alike(t, []any{0, 0, member.Out{}, api.ErrArg}, []any{i, term, o, e})
		if n > 1 {
			// Nothing of its own Term is committed yet.
			ctx, o, e = m.Read()
			alike(t, []any{0, member.Out{}, api.ErrBusy}, []any{ctx, o, e})
		}
		alike(t, []any{s, was, false}, []any{m.State(), files(t, d), m.Gone()})
		alike(t, member.Out{}, ticks(t, m, 1))
	}
	m, d := begins(t, 0, 1, kept{h: api.Hard{Term: 2, Vote: -1}, s: snap(top-1, 2)})
	lead(t, m, 0, 1)
	was := files(t, d)
	i, term, o, e := m.Propose(nil)
	alike(t, []any{0, 0, member.Out{}, api.ErrFull}, []any{i, term, o, e})
	alike(t, []any{was, false, int64(top)}, []any{files(t, d), m.Gone(), m.Applied()})
}

// P13.1, Propose: an entry is kept, and then said to others; alone it is told at once, of others when more than half have it.
func TestPropose(t *testing.T) {
	m, d := leading(t, 1)
	k := kept{api.Hard{Term: 5}, snap(2, 2), append(run(2, 3, 4), entry(5, 5, ""))}
	alike(t, int64(5), m.Applied())
	for at := int64(6); at < 9; at++ {
		x := entry(at, 5, "a")
		alike(t, member.Out{Entries: []api.Entry{x}}, propose(t, m, "a", at))
		k.l = append(k.l, x)
		keeps(t, d, k)
		alike(t, at, m.Applied())
	}
	_, _, o, e := m.Propose(make([]byte, most))
	alike(t, []any{1, api.OK}, []any{len(o.Entries), e})

	m, d = leading(t, 3)
	own, a, b := entry(5, 5, ""), entry(6, 5, "a"), entry(7, 5, "b")
	sends := rmsg.Msg{Kind: rmsg.App, Term: 5, Index: 4, LogTerm: 4, Commit: 2, Entries: []api.Entry{own, a}}
	alike(t, member.Out{Msgs: to(0, sends, 1, 2)}, propose(t, m, "a", 6))
	k.l = append(run(2, 3, 4), own, a)
	keeps(t, d, k)
	sends.Entries = append(sends.Entries, b)
	alike(t, member.Out{Msgs: to(0, sends, 1, 2)}, propose(t, m, "b", 7))
	k.l = append(k.l, b)
	keeps(t, d, k)
	alike(t, int64(2), m.Applied())
	was := files(t, d)
	ahead := rmsg.Msg{Kind: rmsg.App, Term: 5, Index: 6, LogTerm: 5, Commit: 6, Entries: []api.Entry{b}}
	sends.Commit = 6
	alike(t, member.Out{Msgs: append(to(0, ahead, 1), to(0, sends, 2)...), Entries: append(run(2, 3, 4), own, a)}, step(t, m, apped(1, true, 6, 0)))
	alike(t, int64(6), m.Applied())
	alike(t, []api.Entry(nil), step(t, m, apped(2, true, 6, 0)).Entries)
	alike(t, []api.Entry{b}, step(t, m, apped(2, true, 7, 0)).Entries)
	alike(t, int64(7), m.Applied())
	alike(t, was, files(t, d))
}

// P13.1, Read: alone it is told at once, of others when more than half follow; nothing of it is kept.
func TestRead(t *testing.T) {
	m, d := leading(t, 1)
	was := files(t, d)
	alike(t, member.Out{Reads: []raft.Read{{Ctx: 1, Index: 5}}}, read(t, m, 1))
	alike(t, was, files(t, d))
	propose(t, m, "a", 6)
	alike(t, member.Out{Reads: []raft.Read{{Ctx: 2, Index: 6}}}, read(t, m, 2))

	m, d = leading(t, 3)
	step(t, m, apped(1, true, 5, 0))
	was = files(t, d)
	asks := rmsg.Msg{Kind: rmsg.App, Term: 5, Index: 5, LogTerm: 5, Commit: 5, Ctx: 1}
	lacks := rmsg.Msg{Kind: rmsg.App, Term: 5, Index: 4, LogTerm: 4, Commit: 5, Ctx: 1, Entries: []api.Entry{entry(5, 5, "")}}
	alike(t, member.Out{Msgs: append(to(0, asks, 1), to(0, lacks, 2)...)}, read(t, m, 1))
	asks.Ctx, lacks.Ctx = 2, 2
	alike(t, member.Out{Msgs: append(to(0, asks, 1), to(0, lacks, 2)...)}, read(t, m, 2))
	alike(t, member.Out{}, step(t, m, apped(1, true, 5, 0)))
	alike(t, member.Out{Reads: []raft.Read{{Ctx: 1, Index: 5}, {Ctx: 2, Index: 5}}}, step(t, m, apped(1, true, 5, 2)))
	alike(t, member.Out{}, step(t, m, apped(1, true, 5, 2)))
	alike(t, was, files(t, d))
}

// P13.1, Compact: ErrNone where what was applied is the log's base, whatever the Data, of a member that leads or not.
func TestCompactNone(t *testing.T) {
	for _, k := range []kept{{h: unborn}, {h: api.Hard{Term: 3, Vote: -1}, l: run(0, 1)}, before()} {
		m, d := begins(t, 0, 3, k)
		was := files(t, d)
		for _, data := range [][]byte{nil, []byte("a"), make([]byte, whole+1)} {
			mustBe(t, api.ErrNone, m.Compact(data))
		}
		alike(t, []any{was, false}, []any{files(t, d), m.Gone()})
	}
	m, d := leading(t, 1)
	mustBe(t, api.OK, m.Compact([]byte("five")))
	was := files(t, d)
	mustBe(t, api.ErrNone, m.Compact([]byte("once more")))
	alike(t, []any{was, false}, []any{files(t, d), m.Gone()})
}

// P13.1, Compact: of too many Data layer 12's error, and nothing changes; of just so many they are kept.
func TestCompactData(t *testing.T) {
	m, d := leading(t, 1)
	was, s := files(t, d), m.State()
	mustBe(t, api.ErrArg, m.Compact(make([]byte, whole+1)))
	alike(t, []any{was, s, false}, []any{files(t, d), m.State(), m.Gone()})
	data := make([]byte, whole)
	data[whole-1] = 1
	mustBe(t, api.OK, m.Compact(data))
	keeps(t, d, kept{h: api.Hard{Term: 5}, s: api.Snap{Index: 5, Term: 5, Data: data}})
	propose(t, m, "a", 6)
	mustBe(t, api.OK, m.Compact(nil))
	keeps(t, d, kept{h: api.Hard{Term: 5}, s: api.Snap{Index: 6, Term: 5}})
}

// P13.1, Compact: the snap is kept at what was applied, and all entries behind it, committed or not; nothing is told of it, and whoever lacks what is compacted is sent it.
func TestCompact(t *testing.T) {
	m, d := leading(t, 3)
	propose(t, m, "a", 6)
	propose(t, m, "b", 7)
	step(t, m, apped(1, true, 5, 0))
	s := api.Snap{Index: 5, Term: 5, Data: []byte("five")}
	mustBe(t, api.OK, m.Compact(s.Data))
	l := []api.Entry{entry(6, 5, "a"), entry(7, 5, "b")}
	keeps(t, d, kept{api.Hard{Term: 5}, s, l})
	alike(t, []int64{5, 5, 5, 7}, []int64{m.Applied(), m.State().Base, m.State().Commit, m.State().Last})
	was := files(t, d)
	alike(t, member.Out{}, ticks(t, m, 1))
	sends := rmsg.Msg{Kind: rmsg.App, Term: 5, Index: 5, LogTerm: 5, Commit: 5, Entries: l}
	snaps := rmsg.Msg{Kind: rmsg.Whole, Term: 5, Snap: s}
	alike(t, member.Out{Msgs: append(to(0, sends, 1), to(0, snaps, 2)...)}, ticks(t, m, 1))
	alike(t, was, files(t, d))
	alike(t, l, step(t, m, apped(1, true, 7, 0)).Entries)
	m = opens(t, 0, 3, d)
	alike(t, []int64{5, 7}, []int64{m.Applied(), m.State().Last})

	// Of one that follows, too: a Term that is saved with it is the one by then.
	m, d = begins(t, 0, 3, before())
	step(t, m, app(4, 4, 3))
	step(t, m, rmsg.Msg{Kind: rmsg.Vote, From: 2, Term: 6, Index: 4, LogTerm: 4})
	mustBe(t, api.OK, m.Compact([]byte("three")))
	keeps(t, d, kept{api.Hard{Term: 6, Vote: 2}, api.Snap{Index: 3, Term: 3, Data: []byte("three")}, run(3, 4)})
	// And behind a snap of another node's.
	step(t, m, rmsg.Msg{Kind: rmsg.Whole, From: 2, Term: 6, Snap: snap(9, 5)})
	mustBe(t, api.ErrNone, m.Compact([]byte("nine")))
	step(t, m, rmsg.Msg{Kind: rmsg.App, From: 2, Term: 6, Index: 9, LogTerm: 5, Commit: 10, Entries: run(9, 5, 6)})
	mustBe(t, api.OK, m.Compact([]byte("ten")))
	keeps(t, d, kept{api.Hard{Term: 6, Vote: 2}, api.Snap{Index: 10, Term: 5, Data: []byte("ten")}, run(10, 6)})
}
