package rmsg_test

import (
	"bytes"
	"encoding/binary"
	"fmt"
	"slices"
	"testing"

	"decamp/api"
	"decamp/octets"
	"decamp/rmsg"
)

// kinds are all kinds' names, at their numbers.
var kinds = []string{1: "Poll", "Polled", "Vote", "Voted", "App", "Apped", "Whole"}

// number is one of a message's numbers that only some kinds have.
type number struct {
	name string
	at   func(m *rmsg.Msg) *int64
	of   []int
}

func numbers() []number {
	return []number{
		{"Index", func(m *rmsg.Msg) *int64 { return &m.Index }, []int{1, 3, 5, 6}},
		{"LogTerm", func(m *rmsg.Msg) *int64 { return &m.LogTerm }, []int{1, 3, 5}},
		{"Commit", func(m *rmsg.Msg) *int64 { return &m.Commit }, []int{5}},
		{"Ctx", func(m *rmsg.Msg) *int64 { return &m.Ctx }, []int{5, 6}},
	}
}

// hasOk tells whether a kind has Ok.
func hasOk(kind int) bool { return kind == 2 || kind == 4 || kind == 6 }

// data are n bytes, unlike ones.
func data(n int) []byte {
	b := make([]byte, n)
	for k := range b {
		b[k] = byte(k*7 + k/256 + 1)
	}
	return b
}

// run are n entries behind index and term, with some bytes each.
func run(index, term int64, n int) []api.Entry {
	l := []api.Entry{}
	for k := range int64(n) {
		l = append(l, api.Entry{Index: index + 1 + k, Term: term, Data: data(int(k) * 3)})
	}
	return l
}

// least is a message of that kind that has the least of all.
func least(kind int) rmsg.Msg {
	m := rmsg.Msg{Kind: kind, From: 0, To: 1, Term: 1}
	if kind == 7 {
		m.Snap = api.Snap{Index: 1, Term: 1}
	}
	return m
}

// most is a message of that kind that has the most of all.
func most(kind int) rmsg.Msg {
	m := rmsg.Msg{Kind: kind, From: 2, To: 1, Term: api.MaxRev, Ok: hasOk(kind)}
	for _, n := range numbers() {
		if slices.Contains(n.of, kind) {
			*n.at(&m) = api.MaxRev
		}
	}
	if kind == 5 {
		m.Index -= 4
		m.Entries = run(m.Index, api.MaxRev, 4)
		for k := range m.Entries {
			m.Entries[k].Data = data(12000 - k)
		}
	}
	if kind == 7 {
		m.Snap = api.Snap{Index: api.MaxRev, Term: api.MaxRev, Data: data(50000)}
	}
	return m
}

// some is a message of that kind that has something of all that may be other than zero, all unlike.
func some(kind int) rmsg.Msg {
	m := rmsg.Msg{Kind: kind, From: 1, To: 2, Term: 0x0a0b0c0d0e, Ok: hasOk(kind)}
	for k, n := range numbers() {
		if slices.Contains(n.of, kind) {
			*n.at(&m) = 0x0102030405 * int64(k+1)
		}
	}
	if kind == 5 {
		m.Entries = run(m.Index, m.LogTerm, 3)
		m.Entries[2].Term++
	}
	if kind == 7 {
		m.Snap = api.Snap{Index: 0x0203040506, Term: 0x0708090a0b, Data: []byte("snap")}
	}
	return m
}

// rights are messages that are right: of each kind, and at the edges.
func rights() []rmsg.Msg {
	l := []rmsg.Msg{}
	for kind := 1; kind <= 7; kind++ {
		l = append(l, least(kind), some(kind), most(kind))
		m := some(kind)
		m.Ok = false
		m.Entries = []api.Entry{}
		l = append(l, m)
	}
	last := least(5)
	last.Index, last.LogTerm, last.Term, last.Commit = api.MaxRev-1, api.MaxRev-1, api.MaxRev, api.MaxRev
	last.Entries = run(api.MaxRev-1, api.MaxRev, 1)
	return append(l, last)
}

// wrongs are messages that aren't right, each by one thing.
func wrongs() []rmsg.Msg {
	l := []rmsg.Msg{{}}
	for kind := 1; kind <= 7; kind++ {
		for _, m := range []rmsg.Msg{least(kind), some(kind)} {
			l = append(l, wrongHeads(m)...)
			l = append(l, wrongNumbers(m)...)
			l = append(l, wrongRest(m)...)
		}
	}
	return append(append(l, wrongLists()...), wrongSnaps()...)
}

// with answers m, changed so.
func with(m rmsg.Msg, change func(m *rmsg.Msg)) rmsg.Msg {
	m = own(m)
	change(&m)
	return m
}

func wrongHeads(m rmsg.Msg) []rmsg.Msg {
	l := []rmsg.Msg{}
	for _, v := range []int{0, 8, -1, -m.Kind, 255, 256, m.Kind + 256, -1 << 63} {
		l = append(l, with(m, func(m *rmsg.Msg) { m.Kind = v }))
	}
	for _, v := range []int{-1, -2, 3, 4, 255, 256, 257, 258, -1 << 63, 1<<63 - 1} {
		l = append(l, with(m, func(m *rmsg.Msg) { m.From = v }), with(m, func(m *rmsg.Msg) { m.To = v }), with(m, func(m *rmsg.Msg) { m.From, m.To = v, v }))
	}
	for v := range 3 {
		l = append(l, with(m, func(m *rmsg.Msg) { m.From, m.To = v, v }))
	}
	for _, v := range []int64{0, -1, -m.Term, api.MaxRev + 1, -1 << 63, 1<<63 - 1} {
		l = append(l, with(m, func(m *rmsg.Msg) { m.Term = v }))
	}
	return l
}

func wrongNumbers(m rmsg.Msg) []rmsg.Msg {
	l := []rmsg.Msg{}
	for _, n := range numbers() {
		for _, v := range []int64{-1, -api.MaxRev, api.MaxRev + 1, -1 << 63, 1<<63 - 1} {
			l = append(l, with(m, func(m *rmsg.Msg) { *n.at(m) = v }))
		}
		if slices.Contains(n.of, m.Kind) {
			continue
		}
		for _, v := range []int64{1, api.MaxRev} {
			l = append(l, with(m, func(m *rmsg.Msg) { *n.at(m) = v }))
		}
	}
	return l
}

// wrongRest are messages that have Ok, entries or a snap and may not.
func wrongRest(m rmsg.Msg) []rmsg.Msg {
	l := []rmsg.Msg{}
	if !hasOk(m.Kind) {
		l = append(l, with(m, func(m *rmsg.Msg) { m.Ok = true }))
	}
	if m.Kind != 5 {
		l = append(l,
			with(m, func(m *rmsg.Msg) { m.Entries = run(m.Index, max(m.LogTerm, 1), 1) }),
			with(m, func(m *rmsg.Msg) { m.Entries = run(0, 1, 1) }),
			with(m, func(m *rmsg.Msg) { m.Entries = make([]api.Entry, 1) }))
	}
	if m.Kind != 7 {
		for _, s := range []api.Snap{{Index: 1, Term: 1}, {Index: 3, Term: 2, Data: []byte("a")}, {Data: []byte{0}}, {Index: 1}, {Term: 1}} {
			l = append(l, with(m, func(m *rmsg.Msg) { m.Snap = s }))
		}
	}
	return l
}

// wrongLists are Apps with entries that they may not have.
func wrongLists() []rmsg.Msg {
	app := rmsg.Msg{Kind: 5, From: 1, To: 0, Term: 4, Index: 7, LogTerm: 2}
	l := []rmsg.Msg{}
	for _, list := range [][]api.Entry{
		run(7, 2, 5), run(7, 2, 6), run(7, 2, 300),
		run(6, 2, 1), run(8, 2, 1), run(-1, 2, 1), run(0, 2, 2),
		run(7, 1, 1), run(7, 0, 1), run(7, 5, 1), run(7, api.MaxRev, 1), run(7, api.MaxRev+1, 1),
		{{Index: 8, Term: 2}, {Index: 10, Term: 2}},
		{{Index: 8, Term: 2}, {Index: 8, Term: 2}},
		{{Index: 9, Term: 2}, {Index: 8, Term: 2}},
		{{Index: 8, Term: 3}, {Index: 9, Term: 2}},
		{{Index: 8, Term: 2}, {Index: 9, Term: 5}},
		{{Index: 8, Term: 5}, {Index: 9, Term: 4}},
		{{Index: 8, Term: 2}, {Index: 9, Term: 3}, {Index: 10, Term: 4}, {Index: 11, Term: 5}},
		{{Index: 8, Term: 2}, {}},
		{{}},
		{{Index: 8, Term: 2, Data: data(12001)}},
		{{Index: 8, Term: 2}, {Index: 9, Term: 2, Data: data(12001)}, {Index: 10, Term: 2}},
	} {
		l = append(l, with(app, func(m *rmsg.Msg) { m.Entries = list }))
	}
	end := app
	end.Index = api.MaxRev
	end.Entries = run(api.MaxRev, 2, 1)
	return append(l, end)
}

// wrongSnaps are Wholes with snaps that they may not have.
func wrongSnaps() []rmsg.Msg {
	l := []rmsg.Msg{}
	for _, s := range []api.Snap{
		{}, {Data: []byte{}}, {Data: []byte{1}}, {Index: 1}, {Term: 1}, {Index: -1, Term: 1}, {Index: 1, Term: -1},
		{Index: api.MaxRev + 1, Term: 1}, {Index: 1, Term: api.MaxRev + 1}, {Index: 1, Term: 1, Data: data(50001)},
	} {
		l = append(l, rmsg.Msg{Kind: 7, From: 2, To: 0, Term: 3, Snap: s})
	}
	return l
}

// own answers m in memory of its own.
func own(m rmsg.Msg) rmsg.Msg {
	m.Entries = slices.Clone(m.Entries)
	for k := range m.Entries {
		m.Entries[k].Data = slices.Clone(m.Entries[k].Data)
	}
	m.Snap.Data = slices.Clone(m.Snap.Data)
	return m
}

// told are the bytes of a message as the chapter says them, right or not, without the program's own code.
func told(m rmsg.Msg) []byte {
	b := []byte{byte(m.Kind), byte(m.From), byte(m.To)}
	for _, v := range []int64{m.Term, m.Index, m.LogTerm, m.Commit, m.Ctx} {
		b = binary.BigEndian.AppendUint64(b, uint64(v))
	}
	if m.Ok {
		b = append(b, 1)
	} else {
		b = append(b, 0)
	}
	b = binary.BigEndian.AppendUint32(b, uint32(len(m.Entries)))
	for _, e := range m.Entries {
		b = append(b, toldEntry(e)...)
	}
	if m.Kind == 7 {
		b = append(b, toldEntry(api.Entry(m.Snap))...)
	}
	return b
}

func toldEntry(e api.Entry) []byte {
	b := binary.BigEndian.AppendUint64(nil, uint64(e.Index))
	b = binary.BigEndian.AppendUint64(b, uint64(e.Term))
	return append(binary.BigEndian.AppendUint32(b, uint32(len(e.Data))), e.Data...)
}

// alike tells whether two messages are, without the program's own code: nil is as empty.
func alike(a, b rmsg.Msg) bool {
	return key(a) == key(b)
}

// key tells all of a message, and of no other one.
func key(m rmsg.Msg) string {
	s := fmt.Sprint(m.Kind, m.From, m.To, m.Term, m.Index, m.LogTerm, m.Commit, m.Ctx, m.Ok)
	for _, e := range append([]api.Entry{api.Entry(m.Snap)}, m.Entries...) {
		s += fmt.Sprintf(" %d %d %x.", e.Index, e.Term, e.Data)
	}
	return s
}

// show tells of a message what fits in a line.
func show(m rmsg.Msg) string {
	return fmt.Sprintf("%.200s", key(m))
}

// ended are the bytes of an Out that has taken all.
func ended(t *testing.T, o *octets.Out) []byte {
	t.Helper()
	b, e := o.End()
	if e != api.OK {
		t.Fatalf("End: %v", e)
	}
	return b
}

// put are the bytes of m alone, as they are put.
func put(t *testing.T, m rmsg.Msg) []byte {
	t.Helper()
	var o octets.Out
	rmsg.Put(&o, m)
	return ended(t, &o)
}

// isBad holds that an In is bad, and what Get answered is zero.
func isBad(t *testing.T, what string, i *octets.In, got rmsg.Msg) {
	t.Helper()
	if !i.Bad() || i.Left() != 0 || i.Done() || !alike(got, rmsg.Msg{}) {
		t.Errorf("Get of %s: %s, Bad %v, Left %d, Done %v", what, show(got), i.Bad(), i.Left(), i.Done())
	}
}

// P11.1: the kinds have the numbers that the chapter gives them.
func TestKinds(t *testing.T) {
	for n, kind := range []int{1: rmsg.Poll, rmsg.Polled, rmsg.Vote, rmsg.Voted, rmsg.App, rmsg.Apped, rmsg.Whole} {
		if kind != n {
			t.Errorf("%s is %d", kinds[n], kind)
		}
	}
}

// R3: what is handed to Right, Put and Same stays as it was, its spare room too.
func TestHandedInStays(t *testing.T) {
	for _, m := range append(rights(), wrongs()...) {
		roomy := own(m)
		roomy.Entries = append(roomy.Entries, api.Entry{Index: 99, Term: 98, Data: []byte("spare")}, api.Entry{Index: 97})[:len(m.Entries)]
		roomy.Snap.Data = append(roomy.Snap.Data, "spare"...)[:len(m.Snap.Data)]
		for k := range roomy.Entries {
			d := roomy.Entries[k].Data
			roomy.Entries[k].Data = append(d, "spare"...)[:len(d)]
		}
		rmsg.Right(roomy)
		rmsg.Same(roomy, m)
		rmsg.Same(m, roomy)
		put(t, roomy)
		spare := roomy.Entries[:len(m.Entries)+2][len(m.Entries):]
		if !alike(roomy, m) || string(spare[0].Data) != "spare" || spare[0].Index != 99 || spare[0].Term != 98 || spare[1].Index != 97 {
			t.Fatalf("what was handed in isn't as it was: %s", show(m))
		}
		datas := [][]byte{roomy.Snap.Data}
		for _, e := range roomy.Entries {
			datas = append(datas, e.Data)
		}
		for _, d := range datas {
			if !bytes.Equal(d[:len(d)+5][len(d):], []byte("spare")) {
				t.Fatalf("spare room isn't as it was: %s", show(m))
			}
		}
	}
}
