package raft_test

import (
	"math"
	"testing"

	"decamp/api"
	"decamp/raft"
	"decamp/rmsg"
)

// heard is what the node 0, a leader, is told by another one.
func heard(from int, ok bool, index, ctx int64) rmsg.Msg {
	return rmsg.Msg{Kind: rmsg.Apped, From: from, Term: 5, Ok: ok, Index: index, Ctx: ctx}
}

// leading makes the node 0 of n lead in Term 5, with a snap at 2 (Term 2), entries of these Terms behind it, and then its own one.
func leading(t *testing.T, n int, terms ...int64) *raft.Raft {
	t.Helper()
	r := begin(t, 0, n, 4, snap(2, 2), terms...)
	lead(t, r, 0, n)
	return r
}

// propose adds an entry of these Data, and holds what is answered.
func propose(t *testing.T, r *raft.Raft, data string, index int64) {
	t.Helper()
	i, term, e := r.Propose([]byte(data))
	if i != index || term != r.State().Hard.Term || e != api.OK {
		t.Fatalf("%d, %d, %v; want %d", i, term, e, index)
	}
}

// nexts are what a leader has of the nodes 1 and 2: their Next and Match.
type nexts struct{ next1, match1, next2, match2 int64 }

// holds holds a leader of three: what it has of others, and what is committed.
func holds(t *testing.T, r *raft.Raft, want nexts, commit int64) {
	t.Helper()
	s := r.State()
	if len(s.Next) != 3 || len(s.Match) != 3 || s.Next[0] != 0 || s.Match[0] != 0 {
		t.Fatalf("%+v", s)
	}
	if got := (nexts{s.Next[1], s.Match[1], s.Next[2], s.Match[2]}); got != want || s.Commit != commit || s.Role != leader {
		t.Fatalf("%+v, committed %d, want %+v, %d", got, s.Commit, want, commit)
	}
}

// sent is what the node 0 of Term 5 sends to another one: entries that are behind an index.
func sent(to int, index, term, commit, ctx int64, l ...api.Entry) rmsg.Msg {
	return rmsg.Msg{Kind: rmsg.App, To: to, Term: 5, Index: index, LogTerm: term, Commit: commit, Ctx: ctx, Entries: l}
}

// mine is an entry of Term 5 with these Data.
func mine(index int64, data string) api.Entry {
	return api.Entry{Index: index, Term: 5, Data: []byte(data)}
}

// Words, to become a leader: what it is, has and says then; all of it is said to each other one in order.
func TestBecomesLeader(t *testing.T) {
	for n := 2; n <= 3; n++ {
		for id := range n {
			r := begin(t, id, n, 4, snap(2, 2), 3, 4)
			candidacy(t, r, id, n)
			r.Take()
			ticks(r, 3)
			step(t, r, rmsg.Msg{Kind: rmsg.Voted, From: next(id, n), To: id, Term: 5, Ok: true})
			want := raft.State{Role: leader, Lead: id, Hard: api.Hard{Term: 5, Vote: id}, Commit: 2, Base: 2, Last: 5}
			for node := range n {
				want.Match = append(want.Match, 0)
				want.Next = append(want.Next, 5)
				if node == id {
					want.Next[node] = 0
				}
			}
			is(t, r, want)
			alike(t, raft.Out{
				Hard:  want.Hard,
				Fresh: []api.Entry{mine(5, "")},
				Msgs:  toOthers(id, n, rmsg.Msg{Kind: rmsg.App, Term: 5, Index: 4, LogTerm: 4, Commit: 2, Entries: []api.Entry{mine(5, "")}}),
			}, r.Take())
			has(t, r, append(run(2, 3, 4), mine(5, ""))...)
		}
	}
}

// P12.3, Apped, Ok: Match and Next rise, and never fall; an Index above Last counts as Last.
func TestAppedOk(t *testing.T) {
	r := leading(t, 3, 3, 4)
	holds(t, r, nexts{5, 0, 5, 0}, 2)
	step(t, r, heard(1, true, 3, 0))
	holds(t, r, nexts{5, 3, 5, 0}, 2)
	step(t, r, heard(1, true, 2, 0))
	holds(t, r, nexts{5, 3, 5, 0}, 2)
	step(t, r, heard(1, true, 4, 0))
	holds(t, r, nexts{5, 4, 5, 0}, 2)
	step(t, r, heard(1, true, 0, 0))
	holds(t, r, nexts{5, 4, 5, 0}, 2)
	step(t, r, heard(2, true, 4, 0))
	holds(t, r, nexts{5, 4, 5, 4}, 2)
	step(t, r, heard(2, true, 6, 0))
	holds(t, r, nexts{5, 4, 6, 5}, 5)
	step(t, r, heard(1, true, top, 0))
	holds(t, r, nexts{6, 5, 6, 5}, 5)
	propose(t, r, "a", 6)
	holds(t, r, nexts{6, 5, 6, 5}, 5)
	step(t, r, heard(1, true, 6, 0))
	holds(t, r, nexts{7, 6, 6, 5}, 6)
}

// P12.3, Apped, Ok: what is sent then: to all, if more is committed; else to From, if it lacks something; else nothing.
func TestAppedOkSends(t *testing.T) {
	r := leading(t, 3, 3, 4)
	step(t, r, heard(1, true, 4, 0))
	says(t, r, sent(1, 4, 4, 2, 0, mine(5, "")))
	step(t, r, heard(1, true, 5, 0))
	says(t, r, sent(1, 5, 5, 5, 0), sent(2, 4, 4, 5, 0, mine(5, "")))
	step(t, r, heard(1, true, 5, 0))
	says(t, r)
	step(t, r, heard(2, true, 5, 0))
	says(t, r)

	propose(t, r, "a", 6)
	propose(t, r, "b", 7)
	r.Take()
	step(t, r, heard(2, true, 6, 0))
	says(t, r, sent(1, 5, 5, 6, 0, mine(6, "a"), mine(7, "b")), sent(2, 6, 5, 6, 0, mine(7, "b")))
	step(t, r, heard(1, true, 6, 0))
	says(t, r, sent(1, 6, 5, 6, 0, mine(7, "b")))
	step(t, r, heard(1, true, 5, 0))
	says(t, r, sent(1, 6, 5, 6, 0, mine(7, "b")))
	step(t, r, heard(1, true, 7, 0))
	says(t, r, sent(1, 7, 5, 7, 0), sent(2, 6, 5, 7, 0, mine(7, "b")))
}

// P12.3, Apped, not Ok: Next is the lower one of Next - 1 and Index and 1, but at least Match and 1; it is sent to From, whatever that has.
func TestAppedNotOk(t *testing.T) {
	l := run(2, 3, 3, 3, 4)
	r := leading(t, 3, 3, 3, 3, 4)
	holds(t, r, nexts{7, 0, 7, 0}, 2)
	step(t, r, heard(1, false, 5, 0))
	holds(t, r, nexts{6, 0, 7, 0}, 2)
	says(t, r, sent(1, 5, 3, 2, 0, l[3], mine(7, "")))
	step(t, r, heard(1, false, 6, 0))
	holds(t, r, nexts{5, 0, 7, 0}, 2)
	says(t, r, sent(1, 4, 3, 2, 0, l[2], l[3], mine(7, "")))
	step(t, r, heard(1, false, 2, 0))
	holds(t, r, nexts{3, 0, 7, 0}, 2)
	says(t, r, sent(1, 2, 2, 2, 0, l...))
	step(t, r, heard(1, false, 2, 0))
	holds(t, r, nexts{2, 0, 7, 0}, 2)
	says(t, r, rmsg.Msg{Kind: rmsg.Whole, To: 1, Term: 5, Snap: snap(2, 2)})
	step(t, r, heard(1, false, 0, 0), heard(1, false, 0, 0))
	holds(t, r, nexts{1, 0, 7, 0}, 2)
	r.Take()

	step(t, r, heard(2, true, 4, 0))
	r.Take()
	holds(t, r, nexts{1, 0, 7, 4}, 2)
	step(t, r, heard(2, false, 0, 0))
	holds(t, r, nexts{1, 0, 5, 4}, 2)
	says(t, r, sent(2, 4, 3, 2, 0, l[2], l[3], mine(7, "")))
	step(t, r, heard(2, false, top, 0))
	holds(t, r, nexts{1, 0, 5, 4}, 2)
	says(t, r, sent(2, 4, 3, 2, 0, l[2], l[3], mine(7, "")))
}

// P12.3, Apped, not Ok, of an Index above Last: it is one less, and is committed nowhere.
func TestAppedNotOkAbove(t *testing.T) {
	r := leading(t, 3, 3, 4)
	for _, index := range []int64{6, top} {
		was := r.State().Next[1]
		step(t, r, heard(1, false, index, 0))
		holds(t, r, nexts{was - 1, 0, 5, 0}, 2)
	}
	step(t, r, heard(1, true, 5, 0))
	holds(t, r, nexts{6, 5, 5, 0}, 5)
	r.Take()
	step(t, r, heard(1, false, 3, 0))
	holds(t, r, nexts{6, 5, 5, 0}, 5)
	says(t, r, sent(1, 5, 5, 5, 0))
}

// P12.3, Apped: of who is no leader nothing.
func TestAppedUnasked(t *testing.T) {
	for role := follower; role < leader; role++ {
		for _, ok := range []bool{false, true} {
			r := inRole(t, role)
			ticks(r, 1)
			want := r.State()
			step(t, r, heard(1, ok, 2, 0))
			is(t, r, want)
			says(t, r)
		}
	}
}

// Words, a leader sends: MaxBatch entries at most, from Next on; the snap, if Next isn't above the base's index.
func TestSends(t *testing.T) {
	r := leading(t, 2, 3, 3, 3, 3, 4, 4)
	l := append(run(2, 3, 3, 3, 3, 4, 4), mine(9, ""))
	for _, c := range []struct{ told, index, term int64 }{{6, 6, 3}, {4, 4, 3}, {3, 3, 3}, {2, 2, 2}} {
		step(t, r, heard(1, false, c.told, 0))
		says(t, r, sent(1, c.index, c.term, 2, 0, l[c.index-2:min(c.index-2+4, 7)]...))
	}
	for _, told := range []int64{1, 0} {
		step(t, r, heard(1, false, told, 0))
		says(t, r, rmsg.Msg{Kind: rmsg.Whole, To: 1, Term: 5, Snap: snap(2, 2)})
	}
	ticks(r, beat)
	says(t, r, rmsg.Msg{Kind: rmsg.Whole, To: 1, Term: 5, Snap: snap(2, 2)})
	step(t, r, heard(1, true, 2, 0))
	says(t, r, sent(1, 2, 2, 2, 0, l[:4]...))
	step(t, r, heard(1, true, 6, 0))
	says(t, r, sent(1, 6, 3, 2, 0, l[4:]...))
	step(t, r, heard(1, true, 9, 0))
	says(t, r, sent(1, 9, 5, 9, 0))
}

// Words, a leader commits: what more than half have; of an older Term nothing, till an entry of its own is.
func TestCommits(t *testing.T) {
	r := leading(t, 3, 3, 4)
	step(t, r, heard(1, true, 3, 0), heard(2, true, 4, 0), heard(1, true, 4, 0))
	holds(t, r, nexts{5, 4, 5, 4}, 2)
	propose(t, r, "a", 6)
	holds(t, r, nexts{5, 4, 5, 4}, 2)
	step(t, r, heard(2, true, 5, 0))
	holds(t, r, nexts{5, 4, 6, 5}, 5)
	propose(t, r, "b", 7)
	step(t, r, heard(1, true, 7, 0))
	holds(t, r, nexts{8, 7, 6, 5}, 7)

	r = leading(t, 2, 3, 4)
	step(t, r, heard(1, true, 4, 0))
	if s := r.State(); s.Commit != 2 {
		t.Fatal("of two, of an older Term", s)
	}
	propose(t, r, "a", 6)
	step(t, r, heard(1, true, 5, 0))
	if s := r.State(); s.Commit != 5 {
		t.Fatal("of two", s)
	}
}

// P12.4, Propose: of who isn't leader, of Data too long, and at the last index; the first of them that the chapter names.
func TestProposeErrors(t *testing.T) {
	long := make([]byte, most+1)
	for role := follower; role < leader; role++ {
		r := inRole(t, role)
		want := r.State()
		for _, data := range [][]byte{nil, []byte("a"), long} {
			index, term, e := r.Propose(data)
			alike(t, []any{int64(0), int64(0), api.ErrAway}, []any{index, term, e})
		}
		is(t, r, want)
		says(t, r)
	}
	for n := 1; n <= 3; n++ {
		r := begin(t, 0, n, 4, snap(top-1, 2))
		lead(t, r, 0, n)
		want := r.State()
		for data, e := range map[string]api.Errno{"": api.ErrFull, "a": api.ErrFull, string(long[:most]): api.ErrFull, string(long): api.ErrArg} {
			index, term, got := r.Propose([]byte(data))
			alike(t, []any{int64(0), int64(0), e}, []any{index, term, got})
		}
		is(t, r, want)
		alike(t, raft.Out{Hard: want.Hard}, r.Take())

		r = begin(t, 0, n, 4, snap(top-2, 2))
		lead(t, r, 0, n)
		propose(t, r, "the last one", top)
		_, _, e := r.Propose(nil)
		mustBe(t, api.ErrFull, e)
	}
}

// P12.4, Propose: the entry is added, and sent to all others; of one node alone it is committed.
func TestPropose(t *testing.T) {
	for n := 1; n <= 3; n++ {
		r := leading(t, n, 3)
		propose(t, r, "a", 5)
		propose(t, r, "", 6)
		propose(t, r, string(make([]byte, most)), 7)
		l := []api.Entry{mine(5, "a"), mine(6, ""), mine(7, string(make([]byte, most)))}
		var said []rmsg.Msg
		for many := 1; many <= 3; many++ {
			said = append(said, toOthers(0, n, sent(1, 3, 3, 2, 0, append([]api.Entry{mine(4, "")}, l[:many]...)...))...)
		}
		alike(t, raft.Out{Hard: api.Hard{Term: 5}, Fresh: l, Msgs: said}, r.Take())
		want := int64(2)
		if n == 1 {
			want = 7
		}
		if s := r.State(); s.Commit != want || s.Last != 7 {
			t.Fatal(n, s)
		}
	}
}

// P12.4, Read: of who isn't leader; of a leader whose entry at what is committed isn't of its Term.
func TestReadErrors(t *testing.T) {
	for role := follower; role < leader; role++ {
		r := inRole(t, role)
		want := r.State()
		ctx, e := r.Read()
		alike(t, []any{int64(0), api.ErrAway}, []any{ctx, e})
		is(t, r, want)
		says(t, r)
	}
	for n := 2; n <= 3; n++ {
		r := leading(t, n, 3, 4)
		want := r.State()
		ctx, e := r.Read()
		alike(t, []any{int64(0), api.ErrBusy}, []any{ctx, e})
		is(t, r, want)
		says(t, r)
		step(t, r, heard(1, true, 4, 0))
		r.Take()
		_, e = r.Read()
		mustBe(t, api.ErrBusy, e)
		step(t, r, heard(1, true, 5, 0))
		r.Take()
		ctx, e = r.Read()
		alike(t, []any{int64(1), api.OK}, []any{ctx, e})
	}
	r := begin(t, 0, 3, 4, api.Snap{})
	lead(t, r, 0, 3)
	_, e := r.Read()
	mustBe(t, api.ErrBusy, e)
}

// P12.4, Read: what is committed may be the base, if that is of the leader's Term.
func TestReadBase(t *testing.T) {
	r := leading(t, 3, 3, 4)
	step(t, r, heard(1, true, 5, 0))
	mustBe(t, api.OK, r.Compact(5, nil))
	ctx, e := r.Read()
	alike(t, []any{int64(1), api.OK}, []any{ctx, e})
}

// P12.4, Read: of one node alone it is told at once.
func TestReadAlone(t *testing.T) {
	r := leading(t, 1, 3)
	for want := range int64(3) {
		ctx, e := r.Read()
		alike(t, []any{want + 1, api.OK}, []any{ctx, e})
	}
	propose(t, r, "a", 5)
	r.Read()
	alike(t, []raft.Read{{Ctx: 1, Index: 4}, {Ctx: 2, Index: 4}, {Ctx: 3, Index: 4}, {Ctx: 4, Index: 5}}, r.Take().Reads)
	alike(t, []raft.Read(nil), r.Take().Reads)
}

// P12.4, Read; P12.3, Apped: a read is sent to all, and told when its Ctx, or a greater one, came back, in order, and once; of what was committed when it was asked for.
func TestReads(t *testing.T) {
	r := leading(t, 3, 3, 4)
	step(t, r, heard(1, true, 5, 0))
	r.Take()
	for want := int64(1); want <= 3; want++ {
		ctx, e := r.Read()
		alike(t, []any{want, api.OK}, []any{ctx, e})
		says(t, r, sent(1, 5, 5, 5, want), sent(2, 4, 4, 5, want, mine(5, "")))
	}
	tells := func(m rmsg.Msg, want ...raft.Read) {
		t.Helper()
		step(t, r, m)
		alike(t, want, r.Take().Reads)
	}
	tells(heard(1, true, 5, 0))
	tells(heard(1, true, 5, 4))
	tells(heard(2, true, 5, top))
	tells(heard(2, true, 5, 1), raft.Read{Ctx: 1, Index: 5})
	tells(heard(2, true, 5, 1))
	tells(heard(1, true, 5, 1))
	propose(t, r, "a", 6)
	step(t, r, heard(1, true, 6, 1))
	ctx, e := r.Read()
	alike(t, []any{int64(4), api.OK}, []any{ctx, e})
	r.Take()
	tells(heard(1, false, 5, 3), raft.Read{Ctx: 2, Index: 5}, raft.Read{Ctx: 3, Index: 5})
	tells(heard(1, true, 6, 2))
	tells(heard(2, true, 6, 4), raft.Read{Ctx: 4, Index: 6})
	tells(heard(1, true, 6, 4))
	r.Read()
	tells(heard(1, true, 6, 4))
	tells(heard(1, true, 6, 5), raft.Read{Ctx: 5, Index: 6})
}

// P12.3, Apped: a lower Ctx that comes late doesn't take back the greater one.
func TestReadsLate(t *testing.T) {
	r := leading(t, 3, 3)
	step(t, r, heard(1, true, 4, 0))
	r.Read()
	r.Read()
	r.Take()
	step(t, r, heard(1, true, 4, 2), heard(1, true, 4, 1))
	alike(t, []raft.Read{{Ctx: 1, Index: 4}, {Ctx: 2, Index: 4}}, r.Take().Reads)

	// A Ctx above the leader's own is nothing, not even when its own has come as far.
	step(t, r, heard(1, true, 4, 3))
	r.Read()
	step(t, r, heard(1, true, 4, 2))
	alike(t, []raft.Read(nil), r.Take().Reads)
	step(t, r, heard(1, true, 4, 3))
	alike(t, []raft.Read{{Ctx: 3, Index: 4}}, r.Take().Reads)
}

// P12.3, Apped: of two nodes the other one is needed, and enough.
func TestReadsOfTwo(t *testing.T) {
	r := leading(t, 2, 3)
	step(t, r, heard(1, true, 4, 0))
	r.Read()
	says(t, r, sent(1, 4, 5, 4, 0), sent(1, 4, 5, 4, 1))
	step(t, r, heard(1, true, 4, 1))
	alike(t, []raft.Read{{Ctx: 1, Index: 4}}, r.Take().Reads)
}

// Words, to fall back: reads that weren't told are gone, those that were stay; who leads again begins with Ctx 1, and knows nothing of what came back before.
func TestReadsGone(t *testing.T) {
	r := leading(t, 3, 3)
	step(t, r, heard(1, true, 4, 0))
	for range 3 {
		r.Read()
	}
	step(t, r, heard(1, true, 4, 1), heard(2, true, 4, 1))
	step(t, r, rmsg.Msg{Kind: rmsg.Vote, From: 1, Term: 6})
	alike(t, []raft.Read{{Ctx: 1, Index: 4}}, r.Take().Reads)
	lead(t, r, 0, 3)
	if s := r.State(); s.Hard.Term != 7 || s.Next[1] != 5 || s.Match[1] != 0 {
		t.Fatal(s)
	}
	of := func(m rmsg.Msg) rmsg.Msg {
		m.Term = 7
		return m
	}
	step(t, r, of(heard(2, true, 5, 3)))
	if s := r.State(); s.Commit != 5 {
		t.Fatal(s)
	}
	ctx, e := r.Read()
	alike(t, []any{int64(1), api.OK}, []any{ctx, e})
	alike(t, []raft.Read(nil), r.Take().Reads)
	step(t, r, of(heard(1, true, 5, 0)), of(heard(2, true, 5, 0)), of(heard(2, true, 5, 2)))
	alike(t, []raft.Read(nil), r.Take().Reads)
	step(t, r, of(heard(1, true, 5, 1)))
	alike(t, []raft.Read{{Ctx: 1, Index: 5}}, r.Take().Reads)
}

// P12.4, Compact: which index and Data may be; at each role.
func TestCompact(t *testing.T) {
	for _, c := range []struct {
		index int64
		bytes int
		want  api.Errno
	}{
		{0, 1, api.ErrArg}, {-1, 1, api.ErrArg}, {math.MinInt64, 0, api.ErrArg}, {1, 1, api.ErrArg},
		{2, 1, api.OK}, {2, whole, api.OK}, {2, whole + 1, api.ErrArg}, {2, 0, api.OK},
		{3, 1, api.OK}, {4, 1, api.OK}, {4, whole, api.OK}, {4, whole + 1, api.ErrArg},
		{5, 1, api.ErrArg}, {6, 1, api.ErrArg}, {7, 1, api.ErrArg}, {top, 1, api.ErrArg}, {math.MaxInt64, 1, api.ErrArg},
	} {
		r := begin(t, 0, 3, 5, snap(2, 2), 2, 3, 4, 4)
		step(t, r, app(6, 4, 4))
		r.Take()
		want, own, log := r.State(), r.Snap(), r.Entries(0, top)
		data := make([]byte, c.bytes)
		if e := r.Compact(c.index, data); e != c.want {
			t.Fatalf("at %d, of %d bytes: %v, want %v", c.index, c.bytes, e, c.want)
		}
		if c.want == api.OK {
			want.Base = c.index
			own = api.Snap{Index: c.index, Term: map[int64]int64{2: 2, 3: 2, 4: 3}[c.index], Data: data}
			log = log[c.index-2:]
		}
		is(t, r, want)
		alike(t, own, r.Snap())
		has(t, r, log...)
		// It isn't another node's: that it is to be kept isn't told.
		alike(t, raft.Out{Hard: want.Hard}, r.Take())
	}
}

// P12.4, Compact: 0 isn't one, though it is the base's index and committed; the last entry is one, if it is committed.
func TestCompactEdges(t *testing.T) {
	r := begin(t, 0, 3, 5, api.Snap{}, 1)
	mustBe(t, api.ErrArg, r.Compact(0, nil))
	mustBe(t, api.ErrArg, r.Compact(1, nil))
	step(t, r, app(1, 1, 1))
	mustBe(t, api.OK, r.Compact(1, []byte("x")))
	alike(t, api.Snap{Index: 1, Term: 1, Data: []byte("x")}, r.Snap())
	has(t, r)
	mustBe(t, api.OK, r.Compact(1, []byte("y")))
	alike(t, api.Snap{Index: 1, Term: 1, Data: []byte("y")}, r.Snap())
	mustBe(t, api.ErrArg, r.Compact(0, nil))
	mustBe(t, api.ErrArg, r.Compact(2, nil))
}

// P12.4, Compact; words, a leader sends: whoever lacks what is gone is sent the snap as it is now; entries that are left are still fresh.
func TestCompactLeader(t *testing.T) {
	r := leading(t, 3, 3, 4)
	propose(t, r, "a", 6)
	step(t, r, heard(1, true, 5, 0))
	mustBe(t, api.OK, r.Compact(5, []byte("x")))
	out := r.Take()
	alike(t, []api.Entry{mine(6, "a")}, out.Fresh)
	alike(t, api.Snap{}, out.Snap)
	holds(t, r, nexts{6, 5, 5, 0}, 5)
	ticks(r, beat)
	says(t, r,
		sent(1, 5, 5, 5, 0, mine(6, "a")),
		rmsg.Msg{Kind: rmsg.Whole, To: 2, Term: 5, Snap: api.Snap{Index: 5, Term: 5, Data: []byte("x")}})
	step(t, r, heard(2, true, 5, 0))
	says(t, r, sent(2, 5, 5, 5, 0, mine(6, "a")))
	holds(t, r, nexts{6, 5, 6, 5}, 5)
}
