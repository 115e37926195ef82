package raft_test

import (
	"bytes"
	"fmt"
	"slices"
	"testing"

	"decamp/api"
	"decamp/raft"
	"decamp/rmsg"
)

// P12.5, Take: what is hard each time; what is fresh, what is to be kept, what was said and told once.
func TestTakeOnce(t *testing.T) {
	r := leading(t, 3, 3)
	step(t, r, heard(1, true, 4, 0))
	r.Read()
	propose(t, r, "a", 5)
	step(t, r, heard(2, true, 3, 1))
	alike(t, raft.Out{
		Hard:  api.Hard{Term: 5},
		Fresh: []api.Entry{mine(5, "a")},
		Msgs: []rmsg.Msg{
			sent(1, 4, 5, 4, 0), sent(2, 3, 3, 4, 0, mine(4, "")),
			sent(1, 4, 5, 4, 1), sent(2, 3, 3, 4, 1, mine(4, "")),
			sent(1, 4, 5, 4, 1, mine(5, "a")), sent(2, 3, 3, 4, 1, mine(4, ""), mine(5, "a")),
			sent(2, 3, 3, 4, 1, mine(4, ""), mine(5, "a")),
		},
		Reads: []raft.Read{{Ctx: 1, Index: 4}},
	}, r.Take())
	for range 2 {
		alike(t, raft.Out{Hard: api.Hard{Term: 5}}, r.Take())
	}
	propose(t, r, "b", 6)
	alike(t, []api.Entry{mine(6, "b")}, r.Take().Fresh)
}

// P12.5, Take: what is fresh is what changed since, from the lowest one on, also of what another node told.
func TestTakeFresh(t *testing.T) {
	r := begin(t, 0, 3, 5, api.Snap{}, 1, 1, 1)
	step(t, r, app(3, 1, 0, run(3, 4, 4)...))
	alike(t, run(3, 4, 4), r.Take().Fresh)
	step(t, r, app(4, 4, 0, run(4, 4)...))
	alike(t, []api.Entry(nil), r.Take().Fresh)
	step(t, r, app(1, 1, 0, run(1, 1, 3)...))
	alike(t, run(2, 3), r.Take().Fresh)
	step(t, r, app(3, 3, 0, run(3, 5, 5)...), app(3, 3, 0, run(3, 5)...))
	alike(t, run(3, 5, 5), r.Take().Fresh)
	has(t, r, run(0, 1, 1, 3, 5, 5)...)
}

// P12.5, Take: the snap that is to be kept is told once, as it is by then; what is compacted alone isn't to be kept.
func TestTakeSnap(t *testing.T) {
	whole := func(s api.Snap) rmsg.Msg { return rmsg.Msg{Kind: rmsg.Whole, From: 1, Term: 5, Snap: s} }
	r := begin(t, 0, 3, 5, snap(2, 2), 2)
	step(t, r, whole(snap(5, 4)))
	alike(t, snap(5, 4), r.Take().Snap)
	alike(t, api.Snap{}, r.Take().Snap)

	step(t, r, whole(snap(7, 4)), whole(snap(9, 5)))
	alike(t, snap(9, 5), r.Take().Snap)
	alike(t, api.Snap{}, r.Take().Snap)

	step(t, r, whole(snap(12, 5)), app(12, 5, 13, run(12, 5, 5)...))
	mustBe(t, api.OK, r.Compact(13, []byte("thirteen")))
	out := r.Take()
	alike(t, api.Snap{Index: 13, Term: 5, Data: []byte("thirteen")}, out.Snap)
	alike(t, run(13, 5), out.Fresh)
	alike(t, api.Snap{}, r.Take().Snap)

	step(t, r, app(14, 5, 14))
	mustBe(t, api.OK, r.Compact(14, []byte("fourteen")))
	alike(t, api.Snap{}, r.Take().Snap)

	step(t, r, whole(snap(3, 2)))
	alike(t, api.Snap{}, r.Take().Snap)
	alike(t, api.Snap{Index: 14, Term: 5, Data: []byte("fourteen")}, r.Snap())
}

// P12.5, Take: what is hard is told as it is by then, not as it was.
func TestTakeHard(t *testing.T) {
	r := begin(t, 0, 3, 5, api.Snap{})
	step(t, r, rmsg.Msg{Kind: rmsg.Vote, From: 1, Term: 6}, rmsg.Msg{Kind: rmsg.Vote, From: 2, Term: 8})
	alike(t, raft.Out{Hard: api.Hard{Term: 8, Vote: 2}, Msgs: []rmsg.Msg{
		{Kind: rmsg.Voted, To: 1, Term: 6, Ok: true},
		{Kind: rmsg.Voted, To: 2, Term: 8, Ok: true},
	}}, r.Take())
}

// spoil turns every byte of these, and of their spare room.
func spoil(l ...[]byte) {
	for _, b := range l {
		b = b[:cap(b)]
		for i := range b {
			b[i] ^= 0xff
		}
	}
}

// spoilEntries turns all of a list, and of its spare room.
func spoilEntries(l []api.Entry) {
	l = l[:cap(l)]
	for i := range l {
		spoil(l[i].Data)
		l[i] = api.Entry{Index: -7, Term: -7, Data: []byte("spoilt")}
	}
}

// spoilOut turns all of what was taken.
func spoilOut(o raft.Out) {
	spoilEntries(o.Fresh)
	spoil(o.Snap.Data)
	l := o.Msgs[:cap(o.Msgs)]
	for i := range l {
		spoilEntries(l[i].Entries)
		spoil(l[i].Snap.Data)
		l[i] = rmsg.Msg{Kind: -7}
	}
	reads := o.Reads[:cap(o.Reads)]
	for i := range reads {
		reads[i] = raft.Read{Ctx: -7, Index: -7}
	}
}

// R3: what New is handed isn't changed, not even its spare room, and not kept.
func TestNewMemory(t *testing.T) {
	room := append(run(2, 2, 3), one(99, 99))
	l := room[:2]
	data := []byte("the snap's and more")
	s := api.Snap{Index: 2, Term: 2, Data: data[:10]}
	was := fmt.Sprint(room, data)
	r, e := raft.New(0, 2, api.Hard{Term: 4, Vote: -1}, s, l)
	mustBe(t, api.OK, e)
	lead(t, r, 0, 2)
	step(t, r, heard(1, false, 1, 0), heard(1, false, 1, 0), heard(1, false, 1, 0))
	if fmt.Sprint(room, data) != was {
		t.Fatal("it was changed")
	}
	spoilEntries(l)
	spoil(data)
	has(t, r, append(run(2, 2, 3), mine(5, ""))...)
	alike(t, []byte("the snap's"), r.Snap().Data)
}

// R3: what Step is handed isn't changed, and not kept.
func TestStepMemory(t *testing.T) {
	r := begin(t, 0, 3, 5, api.Snap{}, 1, 1)
	room := append(run(1, 2, 5), one(99, 99))
	was := fmt.Sprint(room)
	step(t, r, app(1, 1, 2, room[:2]...))
	if fmt.Sprint(room) != was {
		t.Fatal("entries were changed")
	}
	spoilEntries(room)
	has(t, r, run(0, 1, 2, 5)...)

	data := []byte("the snap's and more")
	step(t, r, rmsg.Msg{Kind: rmsg.Whole, From: 1, Term: 5, Snap: api.Snap{Index: 9, Term: 5, Data: data[:10]}})
	if string(data) != "the snap's and more" {
		t.Fatal("the snap was changed")
	}
	spoil(data)
	alike(t, []byte("the snap's"), r.Take().Snap.Data)
	alike(t, []byte("the snap's"), r.Snap().Data)
}

// R3: what Propose and Compact are handed isn't changed, and not kept.
func TestDataMemory(t *testing.T) {
	r := leading(t, 2, 3)
	data := []byte("some bytes and more")
	if _, _, e := r.Propose(data[:10]); e != api.OK {
		t.Fatal(e)
	}
	step(t, r, heard(1, true, 5, 0))
	mustBe(t, api.OK, r.Compact(4, data[:10]))
	if string(data) != "some bytes and more" {
		t.Fatal("they were changed")
	}
	spoil(data)
	out := r.Take()
	alike(t, []api.Entry{mine(5, "some bytes")}, out.Fresh)
	alike(t, mine(5, "some bytes"), out.Msgs[0].Entries[1])
	has(t, r, mine(5, "some bytes"))
	alike(t, []byte("some bytes"), r.Snap().Data)
}

// R3: what is handed out is the caller's own: whatever is done to it, the node has it as it was, and says it as it is.
func TestOutMemory(t *testing.T) {
	do := func(r *raft.Raft) {
		propose(t, r, "a", 5)
		propose(t, r, "b", 6)
		step(t, r, heard(1, true, 4, 0), heard(2, false, 1, 0), heard(2, false, 1, 0))
		r.Read()
		r.Read()
		step(t, r, heard(1, true, 5, 1))
		ticks(r, beat)
	}
	more := func(r *raft.Raft) {
		mustBe(t, api.OK, r.Compact(5, []byte("five")))
		r.Read()
		ticks(r, beat)
		step(t, r, heard(1, true, 5, 3), heard(2, false, 0, 0))
	}
	calm, rough := leading(t, 3, 3), leading(t, 3, 3)
	do(calm)
	do(rough)
	want, got := calm.Take(), rough.Take()
	alike(t, want, got)
	if len(got.Reads) == 0 || len(got.Fresh) == 0 || !slices.ContainsFunc(got.Msgs, func(m rmsg.Msg) bool { return m.Kind == rmsg.Whole }) {
		t.Fatal("there is too little to spoil", got)
	}
	spoilOut(got)
	spoilEntries(rough.Entries(0, top))
	spoil(rough.Snap().Data)
	s := rough.State()
	for _, l := range [][]int64{s.Next, s.Match} {
		l = l[:cap(l)]
		for i := range l {
			l[i] = -7
		}
	}
	more(calm)
	more(rough)
	alike(t, calm.State(), rough.State())
	alike(t, calm.Take(), rough.Take())
	alike(t, calm.Snap(), rough.Snap())
	alike(t, calm.Entries(0, top), rough.Entries(0, top))
}

// LANGUAGE's rule 7: no two lists of one answer share memory: what is done to one message is not done to another one.
func TestOutApart(t *testing.T) {
	r := leading(t, 3, 3)
	propose(t, r, "abc", 5)
	for range 3 {
		step(t, r, heard(1, false, 0, 0), heard(2, false, 0, 0))
	}
	want := r.Take()
	var datas [][]byte
	for _, e := range want.Fresh {
		datas = append(datas, e.Data)
	}
	for _, m := range want.Msgs {
		for _, e := range m.Entries {
			datas = append(datas, e.Data)
		}
		datas = append(datas, m.Snap.Data)
	}
	many := 0
	for i, b := range datas {
		rest := slices.Concat(datas[:i], datas[i+1:])
		was := bytes.Join(rest, []byte("|"))
		spoil(b)
		if !bytes.Equal(was, bytes.Join(rest, []byte("|"))) {
			t.Fatal("two share memory")
		}
		if len(b) > 0 {
			many++
		}
	}
	if many < 9 {
		t.Fatal("there is too little to spoil", many)
	}
	for i := range want.Msgs {
		for j := range want.Msgs[:i] {
			a, b := want.Msgs[i].Entries, want.Msgs[j].Entries
			if len(a) > 0 && len(b) > 0 && &a[0] == &b[0] {
				t.Fatal("two messages share their entries")
			}
		}
	}
}

// R3: a snap that is to be kept, and the node's own, apart from each other, and from one answer to the next.
func TestSnapMemory(t *testing.T) {
	r := begin(t, 0, 3, 5, api.Snap{})
	step(t, r, rmsg.Msg{Kind: rmsg.Whole, From: 1, Term: 5, Snap: snap(9, 5)})
	spoil(r.Snap().Data)
	out := r.Take()
	alike(t, snap(9, 5), out.Snap)
	spoil(out.Snap.Data)
	alike(t, snap(9, 5), r.Snap())
}
