package member_test

import (
	"bytes"
	"fmt"
	"slices"
	"testing"

	"decamp/api"
	"decamp/member"
	"decamp/raft"
	"decamp/rmsg"
)

// spoil turns every byte of these, and of their spare room.
func spoil(l ...[]byte) {
	for _, b := range l {
		b = b[:cap(b)]
		for i := range b {
			b[i] ^= 0xff
		}
	}
}

// spoilEntries turns all of a list, and of its spare room.
func spoilEntries(l []api.Entry) {
	l = l[:cap(l)]
	for i := range l {
		spoil(l[i].Data)
		l[i] = api.Entry{Index: -7, Term: -7, Data: []byte("spoilt")}
	}
}

// spoilOut turns all of what a call came to.
func spoilOut(o member.Out) {
	spoilEntries(o.Entries)
	spoil(o.Snap.Data)
	l := o.Msgs[:cap(o.Msgs)]
	for i := range l {
		spoilEntries(l[i].Entries)
		spoil(l[i].Snap.Data)
		l[i] = rmsg.Msg{Kind: -7}
	}
	reads := o.Reads[:cap(o.Reads)]
	for i := range reads {
		reads[i] = raft.Read{Ctx: -7, Index: -7}
	}
}

// spoilState turns the lists of a state.
func spoilState(s raft.State) {
	for _, l := range [][]int64{s.Next, s.Match} {
		l = l[:cap(l)]
		for i := range l {
			l[i] = -7
		}
	}
}

// datas are all bytes of what a call came to.
func datas(o member.Out) [][]byte {
	l := [][]byte{o.Snap.Data}
	for _, x := range o.Entries {
		l = append(l, x.Data)
	}
	for _, m := range o.Msgs {
		l = append(l, m.Snap.Data)
		for _, x := range m.Entries {
			l = append(l, x.Data)
		}
	}
	return slices.DeleteFunc(l, func(b []byte) bool { return len(b) == 0 })
}

// apart holds that no two lists of what a call came to share memory. It answers how many bytes' lists there were.
func apart(t *testing.T, o member.Out) int {
	t.Helper()
	l := datas(o)
	for i, b := range l {
		rest := slices.Concat(l[:i], l[i+1:])
		was := bytes.Join(rest, []byte("|"))
		spoil(b)
		if !bytes.Equal(was, bytes.Join(rest, []byte("|"))) {
			t.Fatal("two share memory")
		}
		spoil(b)
	}
	lists := [][]api.Entry{o.Entries}
	for _, m := range o.Msgs {
		lists = append(lists, m.Entries)
	}
	for i, a := range lists {
		for _, b := range lists[:i] {
			if len(a) > 0 && len(b) > 0 && &a[0] == &b[0] {
				t.Fatal("two lists of entries are one")
			}
		}
	}
	return len(l)
}

// roomy is b, with spare room behind it.
func roomy(b string) []byte { return append([]byte(b), "and more"...)[:len(b)] }

// handed is a message as a test hands it in: all that it has is in memory of its own, with spare room.
func handed(m rmsg.Msg) rmsg.Msg {
	m.Snap.Data = roomy(string(m.Snap.Data))
	l := []api.Entry{}
	for _, x := range m.Entries {
		l = append(l, api.Entry{Index: x.Index, Term: x.Term, Data: roomy(string(x.Data))})
	}
	m.Entries = append(l, entry(99, 99, "room"))[:len(l)]
	return m
}

// wide tells all of a message, with its spare room.
func wide(m rmsg.Msg) string {
	text := fmt.Sprintf("%+v %q", m, m.Snap.Data[:cap(m.Snap.Data)])
	for _, x := range m.Entries[:cap(m.Entries)] {
		text += fmt.Sprintf("%+v %q", x, x.Data[:cap(x.Data)])
	}
	return text
}

// deed is something that is done to a member; if it is rough, what was handed in and out is spoilt then. It answers what came of it.
type deed func(t *testing.T, m *member.Member, rough bool) string

// told ends a deed.
func told(t *testing.T, m *member.Member, rough bool, o member.Out, e api.Errno) string {
	t.Helper()
	mustBe(t, api.OK, e)
	apart(t, o)
	text := fmt.Sprintf("%+v, %+v", o, m.State())
	if rough {
		spoilOut(o)
		spoilState(m.State())
	}
	return text
}

func stepped(x rmsg.Msg) deed {
	return func(t *testing.T, m *member.Member, rough bool) string {
		t.Helper()
		x := handed(x)
		was := wide(x)
		o, e := m.Step(x)
		alike(t, was, wide(x))
		if rough {
			spoilEntries(x.Entries)
			spoil(x.Snap.Data)
		}
		return told(t, m, rough, o, e)
	}
}

func proposed(data string) deed {
	return func(t *testing.T, m *member.Member, rough bool) string {
		t.Helper()
		b := roomy(data)
		_, _, o, e := m.Propose(b)
		alike(t, data+"and more", string(b[:len(data)+8]))
		if rough {
			spoil(b)
		}
		return told(t, m, rough, o, e)
	}
}

func compacted(data string) deed {
	return func(t *testing.T, m *member.Member, rough bool) string {
		t.Helper()
		b := roomy(data)
		e := m.Compact(b)
		alike(t, data+"and more", string(b[:len(data)+8]))
		if rough {
			spoil(b)
		}
		return told(t, m, rough, member.Out{}, e)
	}
}

func ticked(t *testing.T, m *member.Member, rough bool) string {
	t.Helper()
	o, e := m.Tick()
	return told(t, m, rough, o, e)
}

func asked(t *testing.T, m *member.Member, rough bool) string {
	t.Helper()
	_, o, e := m.Read()
	return told(t, m, rough, o, e)
}

// R3: what is handed in is left as it is, and not kept; what is handed out is the caller's own: whatever is done to it, the member goes on as another one of which nothing is spoilt, and its disk has the same.
func TestMemory(t *testing.T) {
	for name, l := range map[string][]deed{
		"follows": {
			stepped(app(3, 3, 4, run(3, 5, 5)...)), stepped(app(5, 5, 5, run(5, 5)...)), compacted("five"), stepped(app(6, 5, 6)),
			stepped(sent(snap(9, 5))), stepped(app(9, 5, 10, run(9, 5, 5)...)), compacted("ten"), stepped(app(11, 5, 11)),
		},
		"leads": {
			ticked, ticked, ticked, ticked, ticked, ticked,
			stepped(rmsg.Msg{Kind: rmsg.Polled, From: 1, Term: 5, Ok: true}), stepped(rmsg.Msg{Kind: rmsg.Voted, From: 1, Term: 5, Ok: true}),
			proposed("six"), proposed("seven"), ticked, ticked, stepped(apped(1, true, 6, 0)), asked, asked, stepped(apped(2, false, 0, 0)),
			compacted("six"), stepped(apped(2, false, 0, 0)), proposed("eight"), stepped(apped(1, true, 8, 2)), stepped(apped(2, true, 8, 2)),
		},
	} {
		t.Run(name, func(t *testing.T) {
			calm, calmDisk := begins(t, 0, 3, before())
			rough, roughDisk := begins(t, 0, 3, before())
			for _, do := range l {
				alike(t, do(t, calm, false), do(t, rough, true))
				alike(t, files(t, calmDisk), files(t, roughDisk))
			}
		})
	}
}

// R3: no two lists of one answer share memory, where there are all kinds of them at once.
func TestApart(t *testing.T) {
	m, _ := begins(t, 0, 3, kept{api.Hard{Term: 4, Vote: -1}, snap(2, 2), run(2, 4, 4, 4, 4, 4)})
	lead(t, m, 0, 3)
	if n := apart(t, step(t, m, apped(2, false, 3, 0))); n < 4 {
		t.Error("there is too little", n)
	}
	// Entries are applied, and sent to who lacks them, at once.
	if n := apart(t, step(t, m, apped(1, true, 8, 0))); n < 5+4 {
		t.Error("there is too little", n)
	}
}

// R3: the snap that Open answers isn't the node's own.
func TestOpenMemory(t *testing.T) {
	d := laid(t, api.MaxRoom, before())
	m, s, e := member.Open(0, 3, d)
	mustBe(t, api.OK, e)
	spoil(s.Data)
	_, s, e = member.Open(0, 3, d)
	mustBe(t, api.OK, e)
	alike(t, snap(2, 2), s)
	lead(t, m, 0, 3)
	o := step(t, m, apped(1, false, 1, 0))
	alike(t, []rmsg.Msg{{Kind: rmsg.Whole, To: 1, Term: 5, Snap: snap(2, 2)}}, o.Msgs)
}

// R3: a member keeps on the disk that it was handed, itself.
func TestDisk(t *testing.T) {
	d := newDisk(t, api.MaxRoom)
	c := d.Clone()
	lead(t, opens(t, 0, 1, d), 0, 1)
	if d.Used() == 0 || c.Used() != 0 {
		t.Error(d.Used(), c.Used())
	}
}
