package raft_test

import (
	"testing"

	"decamp/api"
	"decamp/raft"
	"decamp/rmsg"
)

// app is one from the node 1 to the node 0, of Term 5.
func app(index, term int64, commit int64, l ...api.Entry) rmsg.Msg {
	return rmsg.Msg{Kind: rmsg.App, From: 1, Term: 5, Index: index, LogTerm: term, Commit: commit, Ctx: 7, Entries: l}
}

// apped is what the node 0 of Term 5 tells the node 1 of such a one.
func apped(ok bool, index int64) rmsg.Msg {
	return rmsg.Msg{Kind: rmsg.Apped, To: 1, Term: 5, Ok: ok, Index: index, Ctx: 7}
}

// P12.3, App: held against a log of a snap at 3 (Term 2), committed up to 4, and the Terms 2, 2, 4, 4 behind it, 4 to 7: what it answers, what its log is then, how much is committed, and what is fresh.
func TestApp(t *testing.T) {
	log := run(3, 2, 2, 4, 4)
	for name, c := range map[string]struct {
		m      rmsg.Msg
		answer rmsg.Msg
		log    []api.Entry
		commit int64
		fresh  int
	}{
		"nothing behind the last":           {app(7, 4, 0), apped(true, 7), log, 4, 0},
		"nothing behind what is committed":  {app(4, 2, 0), apped(true, 4), log, 4, 0},
		"one more":                          {app(7, 4, 0, one(8, 4)), apped(true, 8), append(run(3, 2, 2, 4, 4), one(8, 4)), 4, 1},
		"four more, of terms that rise":     {app(7, 4, 0, run(7, 4, 4, 5, 5)...), apped(true, 11), run(3, 2, 2, 4, 4, 4, 4, 5, 5), 4, 4},
		"those that stand":                  {app(4, 2, 0, run(4, 2, 4)...), apped(true, 6), log, 4, 0},
		"all that stand":                    {app(4, 2, 0, run(4, 2, 4, 4)...), apped(true, 7), log, 4, 0},
		"some that stand, and one more":     {app(5, 2, 0, run(5, 4, 4, 5)...), apped(true, 8), append(run(3, 2, 2, 4, 4), one(8, 5)), 4, 1},
		"one that turns what stood there":   {app(5, 2, 0, run(5, 5)...), apped(true, 6), run(3, 2, 2, 5), 4, 1},
		"the last one turned":               {app(4, 2, 0, run(4, 2, 4, 5)...), apped(true, 7), run(3, 2, 2, 4, 5), 4, 1},
		"the first one that may be turned":  {app(4, 2, 0, run(4, 3)...), apped(true, 5), run(3, 2, 3), 4, 1},
		"turned, and longer":                {app(4, 2, 0, run(4, 3, 3, 3, 5)...), apped(true, 8), run(3, 2, 3, 3, 3, 5), 4, 4},
		"behind the last":                   {app(8, 4, 0), apped(false, 7), log, 4, 0},
		"far behind the last, with entries": {app(20, 4, 0, run(20, 5)...), apped(false, 7), log, 4, 0},
		"the highest index":                 {app(top, 5, top), apped(false, 7), log, 4, 0},
		"another term ahead":                {app(6, 3, 9, run(6, 3)...), apped(false, 5), log, 4, 0},
		"a later term ahead":                {app(7, 5, 9), apped(false, 6), log, 4, 0},
		"another term at what is committed": {app(4, 4, 9, run(4, 4)...), apped(false, 3), log, 4, 0},
		"below what is committed":           {app(3, 2, 9, run(3, 5, 5, 5)...), apped(true, 4), log, 4, 0},
		"below it, of another term":         {app(3, 5, 9), apped(true, 4), log, 4, 0},
		"below the base":                    {app(1, 1, 9, run(1, 1, 2)...), apped(true, 4), log, 4, 0},
		"from the beginning":                {app(0, 0, 9, run(0, 1, 1, 1, 1)...), apped(true, 4), log, 4, 0},
		"a Commit at the last":              {app(7, 4, 7), apped(true, 7), log, 7, 0},
		"a Commit above what was taken":     {app(4, 2, 9, run(4, 2)...), apped(true, 5), log, 5, 0},
		"a Commit far above":                {app(7, 4, top, run(7, 5)...), apped(true, 8), append(run(3, 2, 2, 4, 4), one(8, 5)), 8, 1},
		"a Commit below what was taken":     {app(4, 2, 5, run(4, 2, 4, 4)...), apped(true, 7), log, 5, 0},
		"a Commit just taken":               {app(4, 2, 6, run(4, 2, 4)...), apped(true, 6), log, 6, 0},
		"a Commit below what is committed":  {app(7, 4, 3), apped(true, 7), log, 4, 0},
		"a Commit, but none taken":          {app(4, 2, 9), apped(true, 4), log, 4, 0},
	} {
		r := begin(t, 0, 3, 5, snap(3, 2), 2, 2, 4, 4)
		step(t, r, rmsg.Msg{Kind: rmsg.App, From: 1, Term: 5, Index: 7, LogTerm: 4, Commit: 4})
		r.Take()
		ticks(r, 2)
		want := r.State()
		step(t, r, c.m)
		want.Woken, want.Commit, want.Last = 0, c.commit, 3+int64(len(c.log))
		if got := r.State(); !same(got, want) {
			t.Errorf("%s: %+v, want %+v", name, got, want)
		}
		has(t, r, c.log...)
		out := r.Take()
		alike(t, raft.Out{Hard: want.Hard, Fresh: c.log[len(c.log)-c.fresh:], Msgs: []rmsg.Msg{c.answer}}, out)
		if !rmsg.Right(out.Msgs[0]) {
			t.Errorf("%s: %+v isn't right", name, out.Msgs)
		}
	}
}

// P12.3, App: the Ctx comes back as it was told, whatever is answered of the entries.
func TestAppCtx(t *testing.T) {
	for _, ctx := range []int64{0, 1, top} {
		r := begin(t, 0, 3, 5, snap(3, 2), 4)
		for _, m := range []rmsg.Msg{app(4, 4, 0), app(9, 4, 0), app(1, 1, 0)} {
			m.Ctx = ctx
			step(t, r, m)
		}
		for _, m := range r.Take().Msgs {
			if m.Ctx != ctx {
				t.Errorf("%+v, want Ctx %d", m, ctx)
			}
		}
	}
}

// P12.3, App and Whole: at each role but a leader's, of its own Term, the node falls back to it with the Lead From; a leader does nothing.
func TestFromLeader(t *testing.T) {
	for role := follower; role <= leader; role++ {
		for _, m := range []rmsg.Msg{
			{Kind: rmsg.App, From: 2, Term: 5, Index: 2, LogTerm: 4, Entries: run(2, 5, 5), Commit: 2},
			{Kind: rmsg.Whole, From: 2, Term: 5, Snap: snap(9, 5)},
		} {
			r := inRole(t, role)
			ticks(r, 1)
			want, log := r.State(), r.Entries(0, top)
			step(t, r, m)
			if role == leader {
				is(t, r, want)
				alike(t, log, r.Entries(0, top))
				alike(t, raft.Out{Hard: want.Hard}, r.Take())
				continue
			}
			want.Role, want.Lead, want.Woken, want.Commit, want.Last = follower, 2, 0, 2, 4
			index := int64(4)
			if m.Kind == rmsg.Whole {
				want.Commit, want.Base, want.Last = 9, 9, 9
				index = 9
			}
			is(t, r, want)
			says(t, r, rmsg.Msg{Kind: rmsg.Apped, To: 2, Term: 5, Ok: true, Index: index})
		}
	}
}

// P12.3, App: a follower that had no Lead has one from then on, and is woken by each.
func TestAppWakes(t *testing.T) {
	r := begin(t, 2, 3, 5, api.Snap{})
	for range 5 {
		ticks(r, patience+6-1)
		step(t, r, rmsg.Msg{Kind: rmsg.App, From: 1, To: 2, Term: 5, Index: 9, LogTerm: 5})
		if s := r.State(); s.Woken != 0 || s.Lead != 1 || s.Role != follower {
			t.Fatal(s)
		}
	}
	ticks(r, patience+6)
	if s := r.State(); s.Role != poller {
		t.Fatal(s)
	}
}

// P12.3, Whole: held against a log of a snap at 3 (Term 2), committed up to 4, and the Terms 2, 2, 4, 4 behind it: what it answers, what is the base, how much is committed, and what is to be kept.
func TestWhole(t *testing.T) {
	for name, c := range map[string]struct {
		s      api.Snap
		index  int64
		base   int64
		log    []api.Entry
		commit int64
		keep   bool
	}{
		"below the base":                    {snap(2, 1), 4, 3, run(3, 2, 2, 4, 4), 4, false},
		"at the base":                       {snap(3, 2), 4, 3, run(3, 2, 2, 4, 4), 4, false},
		"at what is committed":              {snap(4, 2), 4, 3, run(3, 2, 2, 4, 4), 4, false},
		"at it, of another term":            {snap(4, 5), 4, 3, run(3, 2, 2, 4, 4), 4, false},
		"the next entry, as it is":          {snap(5, 2), 5, 3, run(3, 2, 2, 4, 4), 5, false},
		"the last entry, as it is":          {snap(7, 4), 7, 3, run(3, 2, 2, 4, 4), 7, false},
		"the next entry, of another term":   {snap(5, 3), 5, 5, nil, 5, true},
		"an entry, of an older term":        {snap(6, 3), 6, 6, nil, 6, true},
		"the last entry, of a later term":   {snap(7, 5), 7, 7, nil, 7, true},
		"right behind the last":             {snap(8, 4), 8, 8, nil, 8, true},
		"far behind the last":               {snap(top, 5), top, top, nil, top, true},
		"far behind the last, without Data": {api.Snap{Index: 30, Term: 5}, 30, 30, nil, 30, true},
	} {
		r := begin(t, 0, 3, 5, snap(3, 2), 2, 2, 4, 4)
		step(t, r, rmsg.Msg{Kind: rmsg.App, From: 1, Term: 5, Index: 7, LogTerm: 4, Commit: 4})
		r.Take()
		ticks(r, 2)
		want := r.State()
		step(t, r, rmsg.Msg{Kind: rmsg.Whole, From: 1, Term: 5, Snap: c.s})
		want.Woken, want.Commit, want.Base, want.Last = 0, c.commit, c.base, c.base+int64(len(c.log))
		if got := r.State(); !same(got, want) {
			t.Errorf("%s: %+v, want %+v", name, got, want)
		}
		has(t, r, c.log...)
		out := raft.Out{Hard: want.Hard, Msgs: []rmsg.Msg{{Kind: rmsg.Apped, To: 1, Term: 5, Ok: true, Index: c.index}}}
		own := snap(3, 2)
		if c.keep {
			out.Snap, own = c.s, c.s
		}
		alike(t, out, r.Take())
		alike(t, own, r.Snap())
		alike(t, raft.Out{Hard: want.Hard}, r.Take())
	}
}

// P12.3, Whole: behind it, the log goes on from the snap.
func TestWholeGoesOn(t *testing.T) {
	r := begin(t, 0, 3, 5, api.Snap{}, 1, 1, 4)
	step(t, r, rmsg.Msg{Kind: rmsg.Whole, From: 1, Term: 5, Snap: snap(9, 5)}, app(9, 5, 10, run(9, 5, 5)...), app(8, 5, 11))
	alike(t, raft.Out{
		Hard:  api.Hard{Term: 5, Vote: -1},
		Fresh: run(9, 5, 5),
		Snap:  snap(9, 5),
		Msgs:  []rmsg.Msg{{Kind: rmsg.Apped, To: 1, Term: 5, Ok: true, Index: 9}, apped(true, 11), apped(true, 10)},
	}, r.Take())
	if s := r.State(); s.Commit != 10 || s.Base != 9 || s.Last != 11 {
		t.Fatal(s)
	}
}

// P12.3, Whole: entries that were fresh are gone with it.
func TestWholeFresh(t *testing.T) {
	r := begin(t, 0, 3, 5, api.Snap{}, 1)
	step(t, r, app(1, 1, 0, run(1, 4, 4)...), rmsg.Msg{Kind: rmsg.Whole, From: 1, Term: 5, Snap: snap(3, 5)})
	out := r.Take()
	alike(t, snap(3, 5), out.Snap)
	alike(t, []api.Entry(nil), out.Fresh)
}

// What isn't said by any node of a cluster, but is right: a snap of a later Term than its message's. The node leads none the less, and nothing can be added behind it till its Term is as high.
func TestWholeOfLaterTerm(t *testing.T) {
	r := begin(t, 0, 2, 5, api.Snap{})
	step(t, r, rmsg.Msg{Kind: rmsg.Whole, From: 1, Term: 5, Snap: snap(3, 8)})
	lead(t, r, 0, 2)
	if s := r.State(); s.Last != 3 || s.Hard.Term != 6 || s.Commit != 3 {
		t.Fatal(s)
	}
	index, term, e := r.Propose([]byte("a"))
	alike(t, []any{int64(0), int64(0), api.ErrArg}, []any{index, term, e})
	says(t, r)
	_, e = r.Read()
	mustBe(t, api.ErrBusy, e)
	step(t, r, rmsg.Msg{Kind: rmsg.Vote, From: 1, Term: 7})
	lead(t, r, 0, 2)
	if s := r.State(); s.Last != 4 || s.Hard.Term != 8 {
		t.Fatal(s)
	}
}
