package rlog_test

import (
	"bytes"
	"fmt"
	"math"
	"slices"
	"strings"
	"testing"

	"decamp/api"
	"decamp/rlog"
)

const top = api.MaxRev

// data is so many bytes, each another one than those around it.
func data(size int) []byte {
	b := make([]byte, size)
	for i := range b {
		b[i] = byte(i*7 + 3)
	}
	return b
}

// row are entries from an index on, of these terms, each with Data that tells its index and its term.
func row(index int64, terms ...int64) []api.Entry {
	l := []api.Entry{}
	for i, term := range terms {
		at := index + int64(i)
		l = append(l, api.Entry{Index: at, Term: term, Data: fmt.Appendf(nil, "%d of %d", at, term)})
	}
	return l
}

// alike tells whether two lists are, Data of no bytes nil or not.
func alike(a, b []api.Entry) bool {
	return slices.EqualFunc(a, b, func(x, y api.Entry) bool {
		return x.Index == y.Index && x.Term == y.Term && bytes.Equal(x.Data, y.Data)
	})
}

// show is a list as a text that isn't long.
func show(l []api.Entry) string {
	parts := []string{}
	for _, e := range l {
		parts = append(parts, fmt.Sprintf("%d/%d %.12q", e.Index, e.Term, e.Data))
	}
	return "[" + strings.Join(parts, ", ") + "]"
}

// made is a log of this base and these entries.
func made(t *testing.T, index, term int64, l []api.Entry) *rlog.Log {
	t.Helper()
	log, e := rlog.New(index, term, l)
	if e != api.OK || log == nil {
		t.Fatalf("New of %d, %d, %s: %v", index, term, show(l), e)
	}
	return log
}

// held holds all that a log tells against what it is to have: its base, its entries, and how many of them, at the end, are fresh.
func held(t *testing.T, what string, log *rlog.Log, index, term int64, l []api.Entry, fresh int) {
	t.Helper()
	lastIndex, lastTerm := index, term
	if len(l) > 0 {
		lastIndex, lastTerm = l[len(l)-1].Index, l[len(l)-1].Term
	}
	if i, v := log.Base(); i != index || v != term {
		t.Fatalf("%s: Base %d, %d, want %d, %d", what, i, v, index, term)
	}
	if i, v := log.Last(); i != lastIndex || v != lastTerm {
		t.Fatalf("%s: Last %d, %d, want %d, %d", what, i, v, lastIndex, lastTerm)
	}
	terms := map[int64]int64{index: term}
	for n, e := range l {
		terms[e.Index] = e.Term
		if got := log.From(e.Index, math.MaxInt); !alike(got, l[n:]) {
			t.Fatalf("%s: From %d: %s, want %s", what, e.Index, show(got), show(l[n:]))
		}
	}
	for _, at := range []int64{math.MinInt64, -1, 0, index - 2, index - 1, index, lastIndex + 1, lastIndex + 2, math.MaxInt64} {
		if (at <= index || at > lastIndex) && len(log.From(at, math.MaxInt)) != 0 {
			t.Fatalf("%s: From %d: some", what, at)
		}
	}
	for _, at := range append([]int64{math.MinInt64, -1, 0, lastIndex + 1, lastIndex + 2, math.MaxInt64}, span(index-2, lastIndex)...) {
		want, there := terms[at]
		if v, ok := log.Term(at); v != want || ok != there {
			t.Fatalf("%s: Term of %d: %d, %v, want %d, %v", what, at, v, ok, want, there)
		}
	}
	if got := log.Fresh(); !alike(got, l[len(l)-fresh:]) {
		t.Fatalf("%s: Fresh %s, want %s", what, show(got), show(l[len(l)-fresh:]))
	}
	if !log.Newer(lastIndex, lastTerm) || log.Newer(lastIndex-1, lastTerm) || log.Newer(lastIndex, lastTerm-1) {
		t.Fatalf("%s: Newer at its Last", what)
	}
}

// span are the numbers from the one to the other, both with it.
func span(from, to int64) []int64 {
	l := []int64{}
	for v := from; v <= to; v++ {
		l = append(l, v)
	}
	return l
}

// number is one at an edge, and whether it may be a base's.
type number struct {
	v  int64
	ok bool
}

// bases are what an index and a term of a base are asked with.
func bases() []number {
	return []number{
		{math.MinInt64, false}, {-top, false}, {-1, false},
		{0, true}, {1, true}, {7, true}, {1 << 32, true}, {top - 1, true}, {top, true},
		{top + 1, false}, {1 << 41, false}, {math.MaxInt64, false},
	}
}

// P8.1: a base's index and term are 0 to MaxRev each, whatever the other one is.
func TestNewOfNone(t *testing.T) {
	for _, index := range bases() {
		for _, term := range bases() {
			for _, l := range [][]api.Entry{nil, {}} {
				log, e := rlog.New(index.v, term.v, l)
				if !index.ok || !term.ok {
					if e != api.ErrArg || log != nil {
						t.Errorf("%d, %d: %v, %v", index.v, term.v, log, e)
					}
					continue
				}
				if e != api.OK {
					t.Fatalf("%d, %d: %v", index.v, term.v, e)
				}
				held(t, fmt.Sprintf("%d, %d", index.v, term.v), log, index.v, term.v, nil, 0)
			}
		}
	}
}

// P8.1: of a run behind the base there is the log, with none of it fresh.
func TestNewOfRuns(t *testing.T) {
	for _, c := range []struct {
		index, term int64
		l           []api.Entry
	}{
		{0, 0, row(1, 1)},
		{0, 0, row(1, 5, 5, 9)},
		{0, 3, row(1, 3, 4)},
		{7, 0, row(8, 1)},
		{7, 2, row(8, 2, 2, 3, 900, top)},
		{top - 1, 4, row(top, 4)},
		{top - 3, top, row(top-2, top, top, top)},
		{1 << 32, 1, row(1<<32+1, 1, 1)},
		{5, 1, []api.Entry{{Index: 6, Term: 1}, {Index: 7, Term: 1, Data: data(api.MaxData)}}},
	} {
		log := made(t, c.index, c.term, c.l)
		held(t, show(c.l), log, c.index, c.term, c.l, 0)
	}
}

// P8.1: of what isn't a run behind the base there is no log.
func TestNewOfNoRun(t *testing.T) {
	for _, c := range []struct {
		name        string
		index, term int64
		l           []api.Entry
	}{
		{"at the base", 7, 1, row(7, 1, 1)},
		{"two above the base", 7, 1, row(9, 1)},
		{"the first of all behind 7", 7, 1, row(1, 1)},
		{"one left out", 0, 0, append(row(1, 1, 1), row(4, 1)...)},
		{"one told twice", 0, 0, append(row(1, 1), row(1, 1)...)},
		{"the other way round", 0, 0, []api.Entry{row(2, 1)[0], row(1, 1)[0]}},
		{"a term below the base's", 7, 3, row(8, 2, 3)},
		{"a term below the one ahead", 7, 3, row(8, 4, 3)},
		{"a last term below", 7, 3, row(8, 3, 5, 5, 4)},
		{"term 0", 0, 0, row(1, 0)},
		{"term above MaxRev", 0, 0, row(1, 1, top+1)},
		{"a zero one", 0, 0, []api.Entry{{}}},
		{"a zero one behind", 0, 0, append(row(1, 1), api.Entry{})},
		{"too much Data", 0, 0, []api.Entry{{Index: 1, Term: 1, Data: data(api.MaxData + 1)}}},
		{"too much Data, last", 0, 0, append(row(1, 1, 1), api.Entry{Index: 3, Term: 1, Data: data(api.MaxData + 1)})},
		{"above MaxRev", top, 1, row(top+1, 1)},
		{"the last one above MaxRev", top - 1, 1, row(top, 1, 1)},
		{"a run behind -1", -1, 0, row(0, 1, 1)},
		{"a run behind a term below 0", 0, -1, row(1, 1)},
		{"a run behind an index far below", math.MinInt64, 0, row(math.MinInt64+1, 1)},
		{"a run behind an index far above", math.MaxInt64, 0, row(math.MinInt64, 1)},
	} {
		if log, e := rlog.New(c.index, c.term, c.l); e != api.ErrArg || log != nil {
			t.Errorf("%s: %v, %v", c.name, log, e)
		}
	}
}

// P8.1: Base and Last, without entries and with them.
func TestBaseAndLast(t *testing.T) {
	log := made(t, 7, 3, nil)
	held(t, "none", log, 7, 3, nil, 0)
	log = made(t, 7, 3, row(8, 3, 5))
	if i, v := log.Base(); i != 7 || v != 3 {
		t.Errorf("Base %d, %d", i, v)
	}
	if i, v := log.Last(); i != 9 || v != 5 {
		t.Errorf("Last %d, %d", i, v)
	}
}

// P8.1: Term of the base and of each entry; no others have one.
func TestTerm(t *testing.T) {
	log := made(t, 5, 2, row(6, 2, 4, 9))
	for _, c := range []struct {
		index, want int64
		ok          bool
	}{
		{math.MinInt64, 0, false}, {math.MinInt64 + 5, 0, false}, {math.MinInt64 + 6, 0, false}, {-1, 0, false}, {0, 0, false}, {4, 0, false},
		{5, 2, true}, {6, 2, true}, {7, 4, true}, {8, 9, true},
		{9, 0, false}, {10, 0, false}, {5 + 1<<32, 0, false}, {6 + 1<<32, 0, false}, {top, 0, false}, {math.MaxInt64, 0, false},
	} {
		if v, ok := log.Term(c.index); v != c.want || ok != c.ok {
			t.Errorf("Term of %d: %d, %v", c.index, v, ok)
		}
	}
	if v, ok := made(t, 0, 0, nil).Term(0); v != 0 || !ok {
		t.Errorf("Term of the base 0, 0: %d, %v", v, ok)
	}
}

// P8.1: From an entry's index on there are as many as were asked for, if there are as many; of other indexes none.
func TestFrom(t *testing.T) {
	l := row(6, 2, 2, 4, 4, 9)
	log := made(t, 5, 2, l)
	for _, index := range []int64{math.MinInt64, math.MinInt64 + 5, math.MinInt64 + 6, -1, 0, 1, 4, 5, 6, 7, 8, 9, 10, 11, 12, 6 + 1<<32, top, math.MaxInt64} {
		rest := []api.Entry{}
		if index >= 6 && index <= 10 {
			rest = l[index-6:]
		}
		for _, most := range []int{math.MinInt, -1, 0, 1, 2, len(rest) - 1, len(rest), len(rest) + 1, 100, math.MaxInt} {
			want := rest[:min(max(most, 0), len(rest))]
			if got := log.From(index, most); !alike(got, want) {
				t.Errorf("From %d, %d: %s, want %s", index, most, show(got), show(want))
			}
		}
	}
	held(t, "asked", log, 5, 2, l, 0)
}

// P8.1: a log may follow, if its term is above, or the same and its index not below.
func TestNewer(t *testing.T) {
	for name, log := range map[string]*rlog.Log{
		"entries": made(t, 5, 2, row(6, 2, 4)),
		"none":    made(t, 7, 4, nil),
	} {
		for _, c := range []struct {
			index, term int64
			want        bool
		}{
			{6, 3, false}, {7, 3, false}, {8, 3, false}, {top, 3, false}, {math.MaxInt64, 3, false}, {math.MaxInt64, math.MinInt64, false}, {8, 0, false}, {8, -4, false},
			{6, 4, false}, {0, 4, false}, {-7, 4, false}, {math.MinInt64, 4, false}, {7, 4, true}, {8, 4, true}, {math.MaxInt64, 4, true},
			{6, 5, true}, {7, 5, true}, {8, 5, true}, {0, 5, true}, {-1, 5, true}, {math.MinInt64, 5, true}, {5, top, true}, {0, math.MaxInt64, true},
		} {
			if got := log.Newer(c.index, c.term); got != c.want {
				t.Errorf("%s: Newer of %d, %d: %v", name, c.index, c.term, got)
			}
		}
	}
	if log := made(t, 0, 0, nil); !log.Newer(0, 0) || log.Newer(-1, 0) || log.Newer(5, -1) || !log.Newer(0, 1) {
		t.Error("behind 0, 0")
	}
}

// P8.1: what Add answers is there, behind all others, fresh.
func TestAdd(t *testing.T) {
	log := made(t, 5, 2, row(6, 2))
	want := row(6, 2)
	for n, c := range []struct {
		term int64
		data []byte
	}{{2, nil}, {2, []byte("ab")}, {3, []byte{}}, {900, data(api.MaxData)}, {top, []byte{0}}, {top, nil}} {
		e, errno := log.Add(c.term, c.data)
		one := api.Entry{Index: 7 + int64(n), Term: c.term, Data: c.data}
		if errno != api.OK || !alike([]api.Entry{e}, []api.Entry{one}) {
			t.Fatalf("Add of term %d: %s, %v", c.term, show([]api.Entry{e}), errno)
		}
		want = append(want, one)
		held(t, fmt.Sprintf("added %d", n+1), log, 5, 2, want, n+1)
	}
	for index, term := range map[int64]int64{0: 0, 1: 0, 7: 3} {
		log := made(t, index, term, nil)
		e, errno := log.Add(term+1, []byte("x"))
		one := []api.Entry{{Index: index + 1, Term: term + 1, Data: []byte("x")}}
		if errno != api.OK || !alike([]api.Entry{e}, one) {
			t.Errorf("behind %d, %d: %s, %v", index, term, show([]api.Entry{e}), errno)
		}
		held(t, "the first one", log, index, term, one, 1)
	}
}

// P8.1: an entry that wouldn't be right, or of a term that falls, isn't added, and nothing is changed.
func TestAddOfWrong(t *testing.T) {
	for _, c := range []struct {
		name        string
		index, term int64
		l           []api.Entry
		add         int64
		data        []byte
	}{
		{"below Last's", 5, 2, row(6, 2, 4), 3, nil},
		{"the base's, below Last's", 5, 2, row(6, 2, 4), 2, nil},
		{"below the base's", 5, 2, nil, 1, nil},
		{"0", 5, 2, nil, 0, nil},
		{"0 behind 0", 0, 0, nil, 0, nil},
		{"-1", 0, 0, nil, -1, nil},
		{"far below", 5, 2, row(6, 2), math.MinInt64, nil},
		{"above MaxRev", 5, 2, row(6, 2), top + 1, nil},
		{"above MaxRev behind MaxRev", 5, top, nil, top + 1, nil},
		{"far above", 5, 2, row(6, 2), math.MaxInt64, nil},
		{"too much Data", 5, 2, row(6, 2), 2, data(api.MaxData + 1)},
		{"far too much Data", 0, 0, nil, 1, data(api.MaxWhole)},
		{"a base of MaxRev", top, 2, nil, 2, nil},
		{"an entry of MaxRev", top - 2, 2, row(top-1, 2, 2), 3, nil},
	} {
		log := made(t, c.index, c.term, c.l)
		e, errno := log.Add(c.add, c.data)
		if errno != api.ErrArg || e.Index != 0 || e.Term != 0 || len(e.Data) != 0 {
			t.Errorf("%s: %s, %v", c.name, show([]api.Entry{e}), errno)
		}
		held(t, c.name, log, c.index, c.term, c.l, 0)
	}
	log := made(t, top-1, 2, nil)
	if e, errno := log.Add(2, nil); errno != api.OK || e.Index != top {
		t.Errorf("the last one of all: %d, %v", e.Index, errno)
	}
}

// P8.3: Compact of the base's index, of each entry's, and of no one's; what is behind it stays.
func TestCompact(t *testing.T) {
	l := row(6, 2, 2, 4, 9)
	for _, index := range []int64{5, 6, 7, 8, 9} {
		log := made(t, 5, 2, l)
		if e := log.Compact(index); e != api.OK {
			t.Fatalf("%d: %v", index, e)
		}
		term := append([]int64{2}, 2, 2, 4, 9)[index-5]
		held(t, fmt.Sprintf("compacted to %d", index), log, index, term, l[index-5:], 0)
		if e, errno := log.Add(9, []byte("behind")); errno != api.OK || e.Index != 10 {
			t.Errorf("behind %d: %d, %v", index, e.Index, errno)
		}
		held(t, fmt.Sprintf("added behind %d", index), log, index, term, append(slices.Clone(l[index-5:]), api.Entry{Index: 10, Term: 9, Data: []byte("behind")}), 1)
	}
	for _, index := range []int64{math.MinInt64, math.MinInt64 + 6, -1, 0, 1, 4, 10, 11, 6 + 1<<32, top, math.MaxInt64} {
		log := made(t, 5, 2, l)
		if e := log.Compact(index); e != api.ErrArg {
			t.Errorf("%d: %v", index, e)
		}
		held(t, fmt.Sprintf("not compacted to %d", index), log, 5, 2, l, 0)
	}
	log := made(t, 7, 3, nil)
	if e := log.Compact(7); e != api.OK {
		t.Errorf("of the base alone: %v", e)
	}
	held(t, "the base alone", log, 7, 3, nil, 0)
}

// P8.3: Reset is as New without entries, whatever was there.
func TestReset(t *testing.T) {
	for _, index := range bases() {
		for _, term := range bases() {
			what := fmt.Sprintf("Reset of %d, %d", index.v, term.v)
			log := made(t, 5, 2, row(6, 2, 2))
			log.Add(4, []byte("fresh"))
			e := log.Reset(index.v, term.v)
			if !index.ok || !term.ok {
				if e != api.ErrArg {
					t.Errorf("%s: %v", what, e)
				}
				held(t, what, log, 5, 2, append(row(6, 2, 2), api.Entry{Index: 8, Term: 4, Data: []byte("fresh")}), 1)
				continue
			}
			if e != api.OK {
				t.Errorf("%s: %v", what, e)
			}
			held(t, what, log, index.v, term.v, nil, 0)
		}
	}
}

// P8.3: behind a Reset the log goes on from its new base, below, at or above what it had.
func TestGoOnBehindReset(t *testing.T) {
	for _, index := range []int64{0, 4, 5, 6, 7, 8, 9, 40} {
		log := made(t, 5, 2, row(6, 2, 2))
		log.Add(4, nil)
		log.Saved()
		log.Add(4, nil)
		if e := log.Reset(index, 3); e != api.OK {
			t.Fatalf("Reset of %d: %v", index, e)
		}
		log.Add(3, []byte("a"))
		log.Add(5, []byte("b"))
		held(t, fmt.Sprintf("behind %d", index), log, index, 3, []api.Entry{{Index: index + 1, Term: 3, Data: []byte("a")}, {Index: index + 2, Term: 5, Data: []byte("b")}}, 2)
		log.Saved()
		held(t, fmt.Sprintf("behind %d, saved", index), log, index, 3, []api.Entry{{Index: index + 1, Term: 3, Data: []byte("a")}, {Index: index + 2, Term: 5, Data: []byte("b")}}, 0)
	}
}

// P8.3: those are fresh that were added since Saved, as far as they are there.
func TestFresh(t *testing.T) {
	log := made(t, 5, 2, row(6, 2, 2))
	all := row(6, 2, 2)
	step := func(what string, fresh int) {
		t.Helper()
		base := all[0].Index - 1
		_, term := log.Base()
		held(t, what, log, base, term, all, fresh)
	}
	add := func() {
		e, _ := log.Add(4, []byte("added"))
		all = append(all, e)
	}
	step("new", 0)
	log.Saved()
	step("saved, none fresh", 0)
	add()
	step("one added", 1)
	add()
	step("two added", 2)
	log.Saved()
	step("saved", 0)
	log.Saved()
	step("saved twice", 0)
	add()
	step("added behind Saved", 1)
	add()
	add()
	log.Compact(7)
	all = all[2:]
	step("compacted below the fresh ones", 3)
	log.Compact(9)
	all = all[2:]
	step("compacted up to the fresh ones", 3)
	log.Compact(10)
	all = all[1:]
	step("compacted one fresh one away", 2)
	log.Compact(10)
	step("compacted to the base", 2)
	add()
	step("added behind Compact", 3)
	log.Saved()
	add()
	log.Compact(13)
	all = all[3:]
	step("compacted all but the fresh one away", 1)
	if e := log.Compact(14); e != api.OK {
		t.Fatal(e)
	}
	held(t, "compacted all away", log, 14, 4, nil, 0)
	all = nil
	add()
	step("added behind all compacted", 1)
}

// P8.3: a Compact that takes away ones that aren't fresh, and one that takes all away, leave what comes behind as fresh as it is.
func TestFreshBehindCompact(t *testing.T) {
	for old := range int64(4) {
		for fresh := range int64(4) {
			for to := range old + fresh + 1 {
				log := made(t, 0, 0, row(1, slices.Repeat([]int64{1}, int(old))...))
				all := row(1, slices.Repeat([]int64{1}, int(old+fresh))...)
				for _, e := range all[old:] {
					log.Add(e.Term, e.Data)
				}
				what := fmt.Sprintf("%d, %d fresh, compacted to %d", old, fresh, to)
				if e := log.Compact(to); e != api.OK {
					t.Fatalf("%s: %v", what, e)
				}
				left := min(fresh, old+fresh-to)
				held(t, what, log, to, min(to, 1), all[to:], int(left))
				e, _ := log.Add(2, []byte("behind"))
				held(t, what+", added", log, to, min(to, 1), append(slices.Clone(all[to:]), e), int(left)+1)
				log.Saved()
				held(t, what+", saved", log, to, min(to, 1), append(slices.Clone(all[to:]), e), 0)
			}
		}
	}
}

// P8.3: a nil Log answers ErrArg, and zero.
func TestNil(t *testing.T) {
	var log *rlog.Log
	for _, v := range []int64{math.MinInt64, -1, 0, 1, top, math.MaxInt64} {
		if i, term := log.Base(); i != 0 || term != 0 {
			t.Error("Base", i, term)
		}
		if i, term := log.Last(); i != 0 || term != 0 {
			t.Error("Last", i, term)
		}
		if term, ok := log.Term(v); term != 0 || ok {
			t.Error("Term", v, term, ok)
		}
		if l := log.From(v, math.MaxInt); len(l) != 0 {
			t.Error("From", v, l)
		}
		if log.Newer(v, v) {
			t.Error("Newer", v)
		}
		if e, errno := log.Add(v, []byte("a")); errno != api.ErrArg || e.Index != 0 || e.Term != 0 || len(e.Data) != 0 {
			t.Error("Add", v, e, errno)
		}
		for _, more := range [][]api.Entry{nil, row(1, 1), row(v+1, 1)} {
			if i, ok := log.Take(v, 0, more); i != 0 || ok {
				t.Error("Take", v, i, ok)
			}
		}
		if e := log.Compact(v); e != api.ErrArg {
			t.Error("Compact", v, e)
		}
		if e := log.Reset(v, v); e != api.ErrArg {
			t.Error("Reset", v, e)
		}
		log.Saved()
		if l := log.Fresh(); len(l) != 0 {
			t.Error("Fresh", l)
		}
	}
}
