package rlog_test

import (
	"fmt"
	"math"
	"slices"
	"testing"

	"decamp/api"
	"decamp/rlog"
)

// other are entries as row makes them, with other Data.
func other(index int64, terms ...int64) []api.Entry {
	l := row(index, terms...)
	for i := range l {
		l[i].Data = []byte("other")
	}
	return l
}

// P8.2: the chapter's example.
func TestTakeExample(t *testing.T) {
	log := made(t, 0, 0, row(1, 1, 1))
	if index, ok := log.Take(1, 1, row(2, 2)); index != 2 || !ok {
		t.Errorf("%d, %v", index, ok)
	}
	held(t, "the second one is another one", log, 0, 0, row(1, 1, 2), 1)
}

// P8.2: entries that are no run behind what is told aren't taken: 0, and false, whether the log has that index or not.
func TestTakeOfNoRun(t *testing.T) {
	l := row(6, 2, 2, 4)
	for _, c := range []struct {
		name        string
		index, term int64
		more        []api.Entry
	}{
		{"at the index", 7, 2, row(7, 2)},
		{"two above", 7, 2, row(9, 4)},
		{"one left out", 5, 2, append(row(6, 2), row(8, 4)...)},
		{"one told twice", 5, 2, append(row(6, 2), row(6, 2)...)},
		{"a term below what is told", 8, 4, row(9, 3)},
		{"terms that fall", 8, 4, row(9, 6, 5)},
		{"term 0", 8, 4, row(9, 0)},
		{"term above MaxRev", 8, 4, row(9, top+1)},
		{"a zero one", 8, 4, []api.Entry{{}}},
		{"a zero one behind", 8, 4, append(row(9, 4), api.Entry{})},
		{"too much Data", 8, 4, []api.Entry{{Index: 9, Term: 4, Data: data(api.MaxData + 1)}}},
		{"too much Data, there already", 6, 2, []api.Entry{{Index: 7, Term: 2, Data: data(api.MaxData + 1)}}},
		{"no run behind what isn't there", 40, 4, row(40, 4)},
		{"no run behind another term", 7, 3, row(9, 4)},
		{"no run below the base", 2, 1, row(2, 1)},
		{"behind MaxRev", top, 4, row(top+1, 4)},
		{"an index below 1", -1, 0, row(0, 1)},
		{"an index far above", math.MaxInt64, 1, row(math.MinInt64, 1)},
		{"an index far below", math.MinInt64, 1, row(math.MinInt64+1, 1)},
	} {
		log := made(t, 5, 2, l[:2])
		log.Add(4, l[2].Data)
		if index, ok := log.Take(c.index, c.term, c.more); index != 0 || ok {
			t.Errorf("%s: %d, %v", c.name, index, ok)
		}
		held(t, c.name, log, 5, 2, l, 1)
	}
}

// P8.2: behind what the log hasn't, or has with another term, nothing is taken; what is answered is one below, or Last's, but not below the base's.
func TestTakeBehindWhatIsNotThere(t *testing.T) {
	l := row(6, 2, 2, 4)
	for _, c := range []struct {
		index, term, want int64
	}{
		{math.MinInt64, 0, 5}, {math.MinInt64, 2, 5}, {math.MinInt64 + 1, 0, 5}, {-top, 2, 5}, {-1, 0, 5}, {0, 0, 5}, {1, 2, 5}, {4, 2, 5},
		{5, 1, 5}, {5, 3, 5}, {5, 0, 5}, {5, -2, 5}, {5, math.MinInt64, 5},
		{6, 1, 5}, {6, 3, 5},
		{7, 1, 6}, {7, 4, 6},
		{8, 3, 7}, {8, 5, 7}, {8, 0, 7}, {8, math.MaxInt64, 7},
		{9, 4, 8}, {9, 9, 8}, {9, 0, 8},
		{10, 4, 8}, {11, 4, 8}, {8 + 1<<32, 4, 8}, {top, 4, 8}, {top + 1, 4, 8}, {math.MaxInt64 - 1, 4, 8}, {math.MaxInt64, 4, 8}, {math.MaxInt64, 0, 8},
	} {
		lists := [][]api.Entry{nil, {}}
		if c.index >= 0 && c.index < top && c.term >= 0 && c.term < top {
			lists = append(lists, row(c.index+1, c.term+1), row(c.index+1, c.term+1, c.term+1)[:1])
		}
		for _, more := range lists {
			log := made(t, 5, 2, l[:2])
			log.Add(4, l[2].Data)
			index, ok := log.Take(c.index, c.term, more)
			if index != c.want || ok {
				t.Errorf("%s behind %d, %d: %d, %v, want %d", show(more), c.index, c.term, index, ok, c.want)
			}
			held(t, fmt.Sprintf("behind %d, %d", c.index, c.term), log, 5, 2, l, 1)
		}
	}
}

// P8.2: a log of its base alone: behind it all is taken, elsewhere nothing.
func TestTakeOfBaseAlone(t *testing.T) {
	for _, c := range []struct {
		index, term, answer int64
		ok                  bool
	}{
		{7, 3, 9, true}, {7, 2, 7, false}, {7, 4, 7, false}, {6, 3, 7, false}, {0, 0, 7, false}, {8, 3, 7, false}, {9, 3, 7, false}, {400, 3, 7, false},
	} {
		log := made(t, 7, 3, nil)
		more := row(c.index+1, c.term+1, c.term+1)
		if index, ok := log.Take(c.index, c.term, more); index != c.answer || ok != c.ok {
			t.Errorf("behind %d, %d: %d, %v", c.index, c.term, index, ok)
		}
		if c.ok {
			held(t, "taken", log, 7, 3, more, 2)
		} else {
			held(t, "not taken", log, 7, 3, nil, 0)
		}
	}
	log := made(t, 0, 0, nil)
	if index, ok := log.Take(0, 0, row(1, 5)); index != 1 || !ok {
		t.Errorf("behind 0, 0: %d, %v", index, ok)
	}
	held(t, "behind 0, 0", log, 0, 0, row(1, 5), 1)
	log = made(t, top-1, 3, nil)
	if index, ok := log.Take(top-1, 3, row(top, 3)); index != top || !ok {
		t.Errorf("the last one of all: %d, %v", index, ok)
	}
	held(t, "the last one of all", log, top-1, 3, row(top, 3), 1)
	if index, ok := log.Take(top, 3, nil); index != top || !ok {
		t.Errorf("none behind the last one of all: %d, %v", index, ok)
	}
}

// P8.2: of no entries nothing changes, and the answer is the index, if it is there with its term.
func TestTakeOfNone(t *testing.T) {
	l := row(6, 2, 2, 4)
	for at, term := range map[int64]int64{5: 2, 6: 2, 7: 2, 8: 4} {
		for _, more := range [][]api.Entry{nil, {}} {
			log := made(t, 5, 2, l[:2])
			log.Add(4, l[2].Data)
			if index, ok := log.Take(at, term, more); index != at || !ok {
				t.Errorf("behind %d: %d, %v", at, index, ok)
			}
			held(t, "of none", log, 5, 2, l, 1)
		}
	}
}

// P8.2: entries that are there with their terms stay as they are, whatever Data is told of them, and what is behind them stays, too.
func TestTakeOfWhatIsThere(t *testing.T) {
	terms := []int64{2, 2, 4, 4, 9}
	l := row(6, terms...)
	for from := range l {
		for to := from; to <= len(l); to++ {
			log := made(t, 5, 2, l)
			term := append([]int64{2}, terms...)[from]
			more := other(6+int64(from), terms[from:to]...)
			if index, ok := log.Take(5+int64(from), term, more); index != 5+int64(to) || !ok {
				t.Errorf("%d to %d: %d, %v", from, to, index, ok)
			}
			held(t, fmt.Sprintf("%d to %d", from, to), log, 5, 2, l, 0)
		}
	}
}

// P8.2: from the first one on that isn't there with its term, all that the log has is gone, and what is told is there, fresh.
func TestTakeOfOthers(t *testing.T) {
	terms := []int64{2, 2, 2, 2, 2}
	l := row(6, terms...)
	for behind := range len(l) + 1 {
		// So many are told that are there, and then so many that aren't: of another term, or behind the last one.
		for known := range len(l) - behind + 1 {
			for others := 1; others <= 4; others++ {
				start := 6 + int64(behind)
				more := append(other(start, terms[:known]...), other(start+int64(known), slices.Repeat([]int64{3}, others)...)...)
				log := made(t, 5, 2, l)
				what := fmt.Sprintf("%d there and %d others behind %d", known, others, start-1)
				if index, ok := log.Take(start-1, 2, more); index != start-1+int64(known+others) || !ok {
					t.Errorf("%s: %d, %v", what, index, ok)
				}
				want := append(slices.Clone(l[:behind+known]), more[known:]...)
				held(t, what, log, 5, 2, want, others)
			}
		}
	}
}

// P8.2: entries behind the last one, of its own term, are taken behind what is there.
func TestTakeOverTheEnd(t *testing.T) {
	l := row(6, 2, 4)
	for _, behind := range []int64{5, 6, 7} {
		for n := 1; n <= 4; n++ {
			log := made(t, 5, 2, l)
			more := append(other(6, 2, 4), other(8, slices.Repeat([]int64{4}, n)...)...)[behind-5:]
			what := fmt.Sprintf("%s behind %d", show(more), behind)
			if index, ok := log.Take(behind, []int64{2, 2, 4}[behind-5], more); index != 7+int64(n) || !ok {
				t.Errorf("%s: %d, %v", what, index, ok)
			}
			held(t, what, log, 5, 2, append(slices.Clone(l), more[7-behind:]...), n)
		}
	}
}

// P8.2: one that is there with another term, first, in the middle and last, with lower terms and higher ones.
func TestTakeOfOneOther(t *testing.T) {
	l := row(6, 3, 3, 5, 5, 9)
	for _, c := range []struct {
		name  string
		terms []int64
		known int
	}{
		{"first, higher", []int64{4, 5, 5, 5, 9}, 0},
		{"first, lower", []int64{2, 3, 5, 5, 9}, 0},
		{"second, higher", []int64{3, 4, 5, 5, 9}, 1},
		{"middle, lower", []int64{3, 3, 3, 5, 9}, 2},
		{"middle, higher", []int64{3, 3, 6, 6, 9}, 2},
		{"middle, the last one told", []int64{3, 3, 4}, 2},
		{"last, lower", []int64{3, 3, 5, 5, 8}, 4},
		{"last, higher", []int64{3, 3, 5, 5, 10}, 4},
		{"last, and more", []int64{3, 3, 5, 5, 10, 10, 11}, 4},
		{"none, and more", []int64{3, 3, 5, 5, 9, 9, 11}, 5},
		{"all, and fewer", []int64{4, 4}, 0},
	} {
		log := made(t, 5, 2, l)
		more := other(6, c.terms...)
		if index, ok := log.Take(5, 2, more); index != 5+int64(len(more)) || !ok {
			t.Errorf("%s: %d, %v", c.name, index, ok)
		}
		held(t, c.name, log, 5, 2, append(slices.Clone(l[:c.known]), more[c.known:]...), len(more)-c.known)
	}
}

// P8.2, P8.3: a Take that changes something at, above or below the lowest fresh one; one that changes nothing leaves fresh what is.
func TestFreshBehindTake(t *testing.T) {
	terms := []int64{2, 2, 2, 2, 2, 2}
	l := row(6, terms...)
	for fresh := range len(l) + 1 {
		start := func() *rlog.Log {
			log := made(t, 5, 2, l[:len(l)-fresh])
			for _, e := range l[len(l)-fresh:] {
				log.Add(e.Term, e.Data)
			}
			return log
		}
		log := start()
		if _, ok := log.Take(5, 2, other(6, terms...)); !ok {
			t.Fatal("not taken")
		}
		held(t, "nothing changes", log, 5, 2, l, fresh)
		for at := range len(l) + 1 {
			for many := 1; many <= 3; many++ {
				log := start()
				more := other(6+int64(at), slices.Repeat([]int64{3}, many)...)
				if _, ok := log.Take(5+int64(at), 2, more); !ok {
					t.Fatal("not taken")
				}
				want := append(slices.Clone(l[:at]), more...)
				// Those stay fresh that were and are still there, ahead of what changed.
				stay := max(0, at-(len(l)-fresh))
				what := fmt.Sprintf("%d fresh, %d others at %d", fresh, many, at)
				held(t, what, log, 5, 2, want, stay+many)
				log.Saved()
				held(t, what+", saved", log, 5, 2, want, 0)
				e, _ := log.Add(3, nil)
				held(t, what+", added", log, 5, 2, append(want, e), 1)
			}
		}
	}
}

// P8.2: entries of MaxData bytes, and many of them at once.
func TestTakeOfMuch(t *testing.T) {
	log := made(t, 0, 0, nil)
	more := row(1, slices.Repeat([]int64{1}, 500)...)
	for i := range more {
		more[i].Data = data(api.MaxData - i%3)
	}
	if index, ok := log.Take(0, 0, more); index != 500 || !ok {
		t.Errorf("%d, %v", index, ok)
	}
	held(t, "much", log, 0, 0, more, 500)
	if index, ok := log.Take(400, 1, row(401, 2)); index != 401 || !ok {
		t.Errorf("%d, %v", index, ok)
	}
	held(t, "less", log, 0, 0, append(slices.Clone(more[:400]), row(401, 2)...), 401)
}
