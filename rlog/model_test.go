package rlog_test

import (
	"bytes"
	"fmt"
	"math"
	"math/rand"
	"slices"
	"testing"

	"decamp/api"
	"decamp/rlog"
)

// mark is an entry, and whether it changed since Saved was called last.
type mark struct {
	e       api.Entry
	changed bool
}

// model is a log as the chapter's words have it, without the program's own code.
type model struct {
	index, term int64
	l           []mark
}

// entries are those of the model from a place in its list on.
func (m *model) entries(from int) []api.Entry {
	l := []api.Entry{}
	for _, k := range m.l[from:] {
		l = append(l, k.e)
	}
	return l
}

// fresh is how many entries are, at the end.
func (m *model) fresh() int {
	for n, k := range m.l {
		if k.changed {
			return len(m.l) - n
		}
	}
	return 0
}

// terms are those of the base and of each entry, by index.
func (m *model) terms() map[int64]int64 {
	terms := map[int64]int64{m.index: m.term}
	for _, k := range m.l {
		terms[k.e.Index] = k.e.Term
	}
	return terms
}

// last is the index and the term of the last entry, or of the base.
func (m *model) last() (int64, int64) {
	index, term := m.index, m.term
	for _, k := range m.l {
		index, term = k.e.Index, k.e.Term
	}
	return index, term
}

// isRun tells whether entries stand behind an index and a term.
func isRun(index, term int64, l []api.Entry) bool {
	for n, e := range l {
		ahead := api.Entry{Index: index, Term: term}
		if n > 0 {
			ahead = l[n-1]
		}
		if e.Index < 1 || e.Index > top || e.Term < 1 || e.Term > top || len(e.Data) > 12000 || e.Index-1 != ahead.Index || e.Term < ahead.Term {
			return false
		}
	}
	return true
}

func (m *model) add(term int64, b []byte) (api.Entry, api.Errno) {
	index, lastTerm := m.last()
	e := api.Entry{Index: index + 1, Term: term, Data: slices.Clone(b)}
	if term < lastTerm || !isRun(index, 0, []api.Entry{e}) {
		return api.Entry{}, api.ErrArg
	}
	m.l = append(m.l, mark{e, true})
	return e, api.OK
}

func (m *model) take(index, term int64, more []api.Entry) (int64, bool) {
	if !isRun(index, term, more) {
		return 0, false
	}
	terms := m.terms()
	if v, ok := terms[index]; !ok || v != term {
		lastIndex, _ := m.last()
		lower := lastIndex
		if index <= lastIndex {
			lower = index - 1
		}
		if index <= m.index {
			lower = m.index
		}
		return lower, false
	}
	answer := index
	other := false
	for _, e := range more {
		answer = e.Index
		if v, ok := terms[e.Index]; !other && ok && v == e.Term {
			continue
		}
		if !other {
			other = true
			m.l = slices.DeleteFunc(m.l, func(k mark) bool { return k.e.Index >= e.Index })
		}
		m.l = append(m.l, mark{api.Entry{Index: e.Index, Term: e.Term, Data: slices.Clone(e.Data)}, true})
	}
	return answer, true
}

func (m *model) compact(index int64) api.Errno {
	term, ok := m.terms()[index]
	if !ok {
		return api.ErrArg
	}
	m.l = slices.DeleteFunc(m.l, func(k mark) bool { return k.e.Index <= index })
	m.index, m.term = index, term
	return api.OK
}

func (m *model) reset(index, term int64) api.Errno {
	if index < 0 || index > top || term < 0 || term > top {
		return api.ErrArg
	}
	*m = model{index: index, term: term}
	return api.OK
}

// answer is what was answered once, and what it was then.
type answer struct {
	l    []api.Entry
	text string
}

// pair is a log, the model of it, and all that the log answered.
type pair struct {
	log     *rlog.Log
	m       model
	answers []answer
}

// keep keeps an answer, so that it can be seen later whether it stayed as it was.
func (p *pair) keep(l []api.Entry) {
	p.answers = append(p.answers, answer{l, whole(l)})
}

// whole is a list as a text that tells all of it.
func whole(l []api.Entry) string { return fmt.Sprint(l) }

// some is one of these.
func some(r *rand.Rand, l ...int64) int64 { return l[r.Intn(len(l))] }

// place is an index around those that a log has.
func (p *pair) place(r *rand.Rand) int64 {
	lastIndex, _ := p.m.last()
	if r.Intn(12) == 0 {
		return some(r, math.MinInt64, -1, 0, top, top+1, math.MaxInt64, p.m.index+1<<32)
	}
	return p.m.index - 2 + r.Int63n(lastIndex-p.m.index+5)
}

// more are entries behind an index: some that are there, and others; now and then no run.
func (p *pair) more(r *rand.Rand, index, term int64) []api.Entry {
	l := []api.Entry{}
	for _, k := range p.m.l {
		if k.e.Index > index && k.e.Index <= index+r.Int63n(6) && len(l) == int(k.e.Index-index-1) {
			l = append(l, api.Entry{Index: k.e.Index, Term: k.e.Term, Data: []byte("told")})
			term = k.e.Term
		}
	}
	for range r.Intn(4) {
		term = min(max(term, 1)+some(r, 0, 0, 1), top)
		l = append(l, api.Entry{Index: index + int64(len(l)) + 1, Term: term, Data: fmt.Appendf(nil, "%d", r.Intn(1000))})
	}
	if len(l) > 0 && r.Intn(6) == 0 {
		at := r.Intn(len(l))
		l[at].Index += some(r, -1, 0, 0, 1)
		l[at].Term += some(r, -1, 0, 1)
	}
	return l
}

// turn does one thing to both, and holds what both answer; it tells what it did.
func (p *pair) turn(t *testing.T, r *rand.Rand) string {
	t.Helper()
	switch r.Intn(24) {
	case 0, 1, 2, 3, 4, 5:
		return p.turnAdd(t, r)
	case 6, 7, 8, 9, 10, 11, 12, 13:
		return p.turnTake(t, r)
	case 14, 15:
		index := p.place(r)
		if want, got := p.m.compact(index), p.log.Compact(index); got != want {
			t.Fatalf("Compact of %d: %v, want %v", index, got, want)
		}
		return fmt.Sprintf("Compact of %d", index)
	case 16, 17, 18:
		for n := range p.m.l {
			p.m.l[n].changed = false
		}
		p.log.Saved()
		return "Saved"
	case 19:
		_, lastTerm := p.m.last()
		index, term := p.place(r), some(r, -1, 0, 1, lastTerm, top-1, top, top+1)
		if want, got := p.m.reset(index, term), p.log.Reset(index, term); got != want {
			t.Fatalf("Reset of %d, %d: %v, want %v", index, term, got, want)
		}
		return fmt.Sprintf("Reset of %d, %d", index, term)
	}
	return p.turnAsk(t, r)
}

// turnAdd adds to both; the Data that was handed in is spoilt then.
func (p *pair) turnAdd(t *testing.T, r *rand.Rand) string {
	t.Helper()
	_, lastTerm := p.m.last()
	term := lastTerm + some(r, -1, 0, 0, 0, 1, 2)
	b := fmt.Appendf(nil, "%d", r.Intn(1000))
	want, wantErr := p.m.add(term, b)
	got, e := p.log.Add(term, b)
	if e != wantErr || !alike([]api.Entry{got}, []api.Entry{want}) {
		t.Fatalf("Add of %d: %v, %v, want %v, %v", term, got, e, want, wantErr)
	}
	p.keep([]api.Entry{got})
	spoil(b)
	return fmt.Sprintf("Add of %d", term)
}

// turnTake lets both take entries, which are spoilt then.
func (p *pair) turnTake(t *testing.T, r *rand.Rand) string {
	t.Helper()
	_, lastTerm := p.m.last()
	index := p.place(r)
	term, ok := p.m.terms()[index]
	if !ok || r.Intn(6) == 0 {
		term = lastTerm + some(r, -1, 0, 1)
	}
	more := p.more(r, index, term)
	want, wantOk := p.m.take(index, term, more)
	got, gotOk := p.log.Take(index, term, more)
	what := fmt.Sprintf("Take behind %d, %d of %s", index, term, show(more))
	if got != want || gotOk != wantOk {
		t.Fatalf("%s: %d, %v, want %d, %v", what, got, gotOk, want, wantOk)
	}
	spoilAll(more)
	return what
}

// turnAsk asks both.
func (p *pair) turnAsk(t *testing.T, r *rand.Rand) string {
	t.Helper()
	lastIndex, lastTerm := p.m.last()
	index, most := p.place(r), r.Intn(6)-1
	want := []api.Entry{}
	for _, k := range p.m.l {
		if _, there := p.m.terms()[index]; there && index > p.m.index && k.e.Index >= index && len(want) < most {
			want = append(want, k.e)
		}
	}
	got := p.log.From(index, most)
	if !alike(got, want) {
		t.Fatalf("From %d, %d: %s, want %s", index, most, show(got), show(want))
	}
	p.keep(got)
	p.keep(p.log.Fresh())
	newerIndex, newerTerm := lastIndex+some(r, -1, 0, 1), lastTerm+some(r, -1, 0, 1)
	if got := p.log.Newer(newerIndex, newerTerm); got != (newerTerm > lastTerm || newerTerm == lastTerm && newerIndex >= lastIndex) {
		t.Fatalf("Newer of %d, %d behind %d, %d: %v", newerIndex, newerTerm, lastIndex, lastTerm, got)
	}
	return fmt.Sprintf("From %d, %d", index, most)
}

// spoil writes to all of b, and to its spare room.
func spoil(b []byte) {
	b = b[:cap(b)]
	for i := range b {
		b[i] = 0xee
	}
}

// P8.1, P8.2, P8.3, R2, R3: two logs side by side, in random turns, are as the words have each of them; what they answered stays.
func TestTurns(t *testing.T) {
	for seed := range int64(300) {
		r := rand.New(rand.NewSource(seed))
		pairs := []*pair{}
		for range 2 {
			m := model{index: some(r, 0, 0, 1, 9, top-12), term: some(r, 0, 1, 3)}
			pairs = append(pairs, &pair{log: made(t, m.index, m.term, nil), m: m})
		}
		story := ""
		for n := range 150 {
			which := r.Intn(2)
			story = fmt.Sprintf("%s\n%d: %s", story, which, pairs[which].turn(t, r))
			for at, p := range pairs {
				held(t, fmt.Sprintf("seed %d, turn %d, log %d, behind%s", seed, n, at, story), p.log, p.m.index, p.m.term, p.m.entries(0), p.m.fresh())
			}
			if len(story) > 2000 {
				story = story[len(story)-1000:]
			}
		}
		for _, p := range pairs {
			for _, a := range p.answers {
				if whole(a.l) != a.text {
					t.Fatalf("seed %d: an answer became %s, it was %s", seed, whole(a.l), a.text)
				}
			}
		}
	}
}

// P8.1: New of the entries that another log has makes one that goes on alone.
func TestNewOfAnothersEntries(t *testing.T) {
	one := made(t, 5, 2, row(6, 2, 2, 4))
	two := made(t, 5, 2, one.From(6, 9))
	one.Take(6, 2, row(7, 9, 9, 9))
	held(t, "the other one", two, 5, 2, row(6, 2, 2, 4), 0)
	two.Compact(8)
	two.Add(5, nil)
	held(t, "the first one", one, 5, 2, append(row(6, 2), row(7, 9, 9, 9)...), 3)
}

// R3: what New, Add and Take are handed is left as it is, spare room too, and not kept.
func TestHandedIn(t *testing.T) {
	room := make([]api.Entry, 5)
	for i := range room {
		b := append(make([]byte, 0, 16), "handed"...)
		copy(b[6:16], "spare room")
		room[i] = api.Entry{Index: int64(i) + 1, Term: 1, Data: b}
	}
	was := func() string {
		text := ""
		for _, e := range room {
			text += fmt.Sprintln(e.Index, e.Term, e.Data, e.Data[:cap(e.Data)])
		}
		return text
	}
	want := was()
	log := made(t, 0, 0, room[:2])
	log.Take(2, 1, room[2:3])
	added, _ := log.Add(1, room[3].Data)
	log.Add(1, nil)
	log.Take(4, 1, []api.Entry{{Index: 5, Term: 2}})
	log.Fresh()
	log.From(1, 9)
	log.Saved()
	if got := was(); got != want {
		t.Errorf("what was handed in became %s", got)
	}
	for i := range room {
		spoil(room[i].Data)
		room[i] = api.Entry{}
	}
	all := []api.Entry{}
	for i := range int64(4) {
		all = append(all, api.Entry{Index: i + 1, Term: 1, Data: []byte("handed")})
	}
	all = append(all, api.Entry{Index: 5, Term: 2})
	held(t, "what was handed in is spoilt", log, 0, 0, all, 0)
	if string(added.Data) != "handed" {
		t.Errorf("what Add answered is %q", added.Data)
	}
}

// spoilAll writes to all of a list, to its spare room, and to all Data in it.
func spoilAll(l []api.Entry) {
	l = l[:cap(l)]
	for i := range l {
		spoil(l[i].Data)
		l[i] = api.Entry{Index: -1, Term: -1, Data: []byte("spoilt")}
	}
}

// R3: what is answered may be changed, and the log stays as it is; no two answers share memory, and no two Data of one.
func TestAnswered(t *testing.T) {
	l := row(1, 1, 1, 2, 2)
	log := made(t, 0, 0, l[:2])
	for _, e := range l[2:] {
		added, _ := log.Add(e.Term, e.Data)
		spoil(added.Data)
	}
	held(t, "what Add answered is spoilt", log, 0, 0, l, 2)
	for name, ask := range map[string]func() []api.Entry{
		"From":     func() []api.Entry { return log.From(1, 9) },
		"From 3":   func() []api.Entry { return log.From(3, 9) },
		"From 1,2": func() []api.Entry { return log.From(1, 2) },
		"Fresh":    func() []api.Entry { return log.Fresh() },
	} {
		one, two := ask(), ask()
		want := whole(two)
		spoilAll(one)
		if whole(two) != want {
			t.Errorf("%s: another answer became %s", name, whole(two))
		}
		held(t, name+" is spoilt", log, 0, 0, l, 2)
		for i := range two {
			rest := slices.Clone(two)
			before := make([][]byte, len(rest))
			for k := range rest {
				before[k] = bytes.Clone(rest[k].Data)
			}
			_ = append(two[i].Data, "behind it"...)
			spoil(two[i].Data)
			for k := range rest {
				if k != i && !bytes.Equal(rest[k].Data, before[k]) {
					t.Errorf("%s: Data %d and %d share memory", name, i, k)
				}
			}
		}
		held(t, name+" is spoilt one by one", log, 0, 0, l, 2)
	}
}

// R3: what was answered once stays, whatever becomes of the log.
func TestAnswersStay(t *testing.T) {
	for name, change := range map[string]func(log *rlog.Log){
		"Add":         func(log *rlog.Log) { log.Add(9, []byte("x")) },
		"Take":        func(log *rlog.Log) { log.Take(0, 0, row(1, 7, 7, 7, 7, 7)) },
		"Take within": func(log *rlog.Log) { log.Take(2, 1, row(3, 7)) },
		"Compact":     func(log *rlog.Log) { log.Compact(2); log.Add(9, []byte("x")) },
		"Compact all": func(log *rlog.Log) { log.Compact(4); log.Add(9, []byte("x")) },
		"Reset":       func(log *rlog.Log) { log.Reset(0, 0); log.Take(0, 0, row(1, 7, 7, 7, 7)) },
		"Saved":       func(log *rlog.Log) { log.Saved(); log.Add(9, []byte("x")) },
	} {
		log := made(t, 0, 0, row(1, 1, 1))
		log.Add(2, []byte("three"))
		added, _ := log.Add(2, []byte("four"))
		from, fresh := log.From(1, 9), log.Fresh()
		change(log)
		change(log)
		if want := append(row(1, 1, 1), api.Entry{Index: 3, Term: 2, Data: []byte("three")}, api.Entry{Index: 4, Term: 2, Data: []byte("four")}); !alike(from, want) || !alike(fresh, want[2:]) || !alike([]api.Entry{added}, want[3:]) {
			t.Errorf("%s: From %s, Fresh %s, Add %s", name, show(from), show(fresh), show([]api.Entry{added}))
		}
	}
}
