package entry_test

import (
	"fmt"
	"math"
	"math/rand"
	"slices"
	"testing"

	"decamp/api"
	"decamp/entry"
)

// number is one at an edge, and whether it may be there.
type number struct {
	v  int64
	ok bool
}

// places are what an Index and a Term are asked with.
func places() []number {
	return []number{
		{math.MinInt64, false},
		{-api.MaxRev, false},
		{-1, false},
		{0, false},
		{1, true},
		{2, true},
		{1 << 32, true},
		{api.MaxRev - 1, true},
		{api.MaxRev, true},
		{api.MaxRev + 1, false},
		{1 << 41, false},
		{math.MaxInt64, false},
	}
}

// data is so many bytes, each another one than those around it.
func data(size int) []byte {
	b := make([]byte, size)
	for i := range b {
		b[i] = byte(i*7 + 3)
	}
	return b
}

// P7.1: an entry is right of an Index and a Term of 1 to MaxRev, and of MaxData bytes at most.
func TestRight(t *testing.T) {
	for _, index := range places() {
		for _, term := range places() {
			for _, size := range []int{0, 1, api.MaxData - 1, api.MaxData, api.MaxData + 1, api.MaxWhole} {
				e := api.Entry{Index: index.v, Term: term.v, Data: data(size)}
				want := index.ok && term.ok && size <= 12000
				if got := entry.Right(e); got != want {
					t.Errorf("Right of %d, %d, %d bytes: %v", index.v, term.v, size, got)
				}
			}
			e := api.Entry{Index: index.v, Term: term.v}
			if got := entry.Right(e); got != (index.ok && term.ok) {
				t.Errorf("Right of %d, %d, nil: %v", index.v, term.v, got)
			}
		}
	}
}

// P7.1: what is hard is right of a Term of 0 to MaxRev, and a Vote of -1 to MaxNodes - 1.
func TestRightHard(t *testing.T) {
	votes := []number{
		{math.MinInt, false},
		{-api.MaxNodes, false},
		{-2, false},
		{-1, true},
		{0, true},
		{1, true},
		{api.MaxNodes - 1, true},
		{api.MaxNodes, false},
		{api.MaxNodes + 1, false},
		{math.MaxInt, false},
	}
	for _, term := range places() {
		for _, vote := range votes {
			want := (term.ok || term.v == 0) && vote.ok
			if got := entry.RightHard(api.Hard{Term: term.v, Vote: int(vote.v)}); got != want {
				t.Errorf("RightHard of %d, %d: %v", term.v, vote.v, got)
			}
		}
	}
}

// P7.1: a snap is right of Index and Term 0 and no Data, or both of 1 to MaxRev, and MaxWhole bytes at most.
func TestRightSnap(t *testing.T) {
	for _, index := range places() {
		for _, term := range places() {
			for _, size := range []int{0, 1, api.MaxData + 1, api.MaxWhole - 1, api.MaxWhole, api.MaxWhole + 1} {
				s := api.Snap{Index: index.v, Term: term.v, Data: data(size)}
				none := index.v == 0 && term.v == 0 && size == 0
				want := none || index.ok && term.ok && size <= 50000
				if got := entry.RightSnap(s); got != want {
					t.Errorf("RightSnap of %d, %d, %d bytes: %v", index.v, term.v, size, got)
				}
			}
		}
	}
	if !entry.RightSnap(api.Snap{}) {
		t.Error("RightSnap of a zero one")
	}
}

// at is an entry of that index and term, with some Data.
func at(index, term int64) api.Entry {
	return api.Entry{Index: index, Term: term, Data: data(int(index & 3))}
}

// row are entries from an index on, of these terms.
func row(index int64, terms ...int64) []api.Entry {
	l := []api.Entry{}
	for i, term := range terms {
		l = append(l, at(index+int64(i), term))
	}
	return l
}

// P7.1: no entries are a run behind whatever there is.
func TestRunOfNone(t *testing.T) {
	for _, index := range places() {
		for _, term := range places() {
			if !entry.Run(index.v, term.v, nil) || !entry.Run(index.v, term.v, []api.Entry{}) {
				t.Errorf("none behind %d, %d", index.v, term.v)
			}
		}
	}
}

// P7.1: each Index is one above the one ahead, the first one's above what the run stands behind.
func TestRunOfIndexes(t *testing.T) {
	const top = api.MaxRev
	for _, c := range []struct {
		name  string
		index int64
		l     []api.Entry
		want  bool
	}{
		{"one behind 0", 0, row(1, 1), true},
		{"three behind 0", 0, row(1, 1, 1, 1), true},
		{"three behind 7", 7, row(8, 1, 1, 1), true},
		{"the last one of all", top - 1, row(top, 1), true},
		{"the last two of all", top - 2, row(top-1, 1, 1), true},
		{"one more than the last one", top - 1, row(top, 1, 1), false},
		{"one behind the last one", top, row(top+1, 1), false},
		{"the last one behind itself", top, row(top, 1), false},
		{"the first one behind the last one", top, row(1, 1), false},
		{"the first one at what is behind", 7, row(7, 1, 1), false},
		{"the first one below", 7, row(6, 1, 1, 1), false},
		{"the first one two above", 7, row(9, 1, 1), false},
		{"the first one of all behind 7", 7, row(1, 1), false},
		{"0 behind 0", 0, row(0, 1, 1), false},
		{"2 behind 0", 0, row(2, 1), false},
		{"0 behind -1", -1, row(0, 1, 1), false},
		{"1 behind -1", -1, row(1, 1), false},
		{"-1 behind -2", -2, row(-1, 1, 1, 1), false},
		{"one that is skipped", 0, append(row(1, 1, 1), row(4, 1)...), false},
		{"the second one skipped", 0, append(row(1, 1), row(3, 1, 1)...), false},
		{"one told twice", 0, append(row(1, 1, 1), row(2, 1, 1)...), false},
		{"the last one told twice", 0, append(row(1, 1, 1), at(2, 1)), false},
		{"the first one told twice", 0, append(row(1, 1), row(1, 1, 1)...), false},
		{"two that stand the other way round", 0, []api.Entry{at(2, 1), at(1, 1)}, false},
		{"falling", 3, []api.Entry{at(4, 1), at(3, 1)}, false},
		{"far above", math.MaxInt64, row(1, 1), false},
		{"above what has one above it", math.MaxInt64, row(math.MinInt64, 1), false},
		{"far below", math.MinInt64, row(math.MinInt64+1, 1), false},
		{"far below, as far as can be", math.MinInt64, row(math.MaxInt64, 1), false},
	} {
		if got := entry.Run(c.index, 1, c.l); got != c.want {
			t.Errorf("%s: %v", c.name, got)
		}
	}
}

// P7.1: Terms never fall, the first one not below the term behind which the run stands.
func TestRunOfTerms(t *testing.T) {
	const top = api.MaxRev
	for _, c := range []struct {
		term  int64
		terms []int64
		want  bool
	}{
		{0, []int64{1}, true},
		{0, []int64{5, 5, 9}, true},
		{3, []int64{3}, true},
		{3, []int64{3, 3, 3}, true},
		{3, []int64{4}, true},
		{3, []int64{3, 4, 4, 900, top}, true},
		{3, []int64{2}, false},
		{3, []int64{2, 3, 4}, false},
		{3, []int64{3, 2}, false},
		{3, []int64{4, 3}, false},
		{3, []int64{4, 4, 3, 4}, false},
		{3, []int64{4, 5, 6, 5}, false},
		{0, []int64{2, 1}, false},
		{1, []int64{0}, false},
		{0, []int64{0}, false},
		{-1, []int64{0}, false},
		{-5, []int64{1, 2}, true},
		{math.MinInt64, []int64{1, 2}, true},
		{top - 1, []int64{top - 1, top}, true},
		{top, []int64{top, top}, true},
		{top, []int64{top, top + 1}, false},
		{top, []int64{top - 1}, false},
		{top + 1, []int64{top}, false},
		{top + 1, []int64{top + 1}, false},
		{math.MaxInt64, []int64{1}, false},
	} {
		for _, index := range []int64{0, 1, 40} {
			if got := entry.Run(index, c.term, row(index+1, c.terms...)); got != c.want {
				t.Errorf("%v behind %d, %d: %v", c.terms, index, c.term, got)
			}
		}
	}
}

// P7.1: behind 0, 0 a run begins at 1, of any Term that may be.
func TestRunBehindNothing(t *testing.T) {
	for _, term := range places() {
		if got := entry.Run(0, 0, row(1, term.v, term.v)); got != term.ok {
			t.Errorf("of Term %d: %v", term.v, got)
		}
	}
}

// P7.1: one entry that isn't right makes none of it a run, wherever it stands.
func TestRunWithOneThatIsNotRight(t *testing.T) {
	for place := range 4 {
		for _, c := range []struct {
			size int
			want bool
		}{{api.MaxData, true}, {api.MaxData + 1, false}, {api.MaxWhole, false}} {
			l := row(6, 2, 2, 2, 2)
			l[place].Data = data(c.size)
			if got := entry.Run(5, 2, l); got != c.want {
				t.Errorf("%d bytes at %d: %v", c.size, place, got)
			}
		}
		for _, term := range []int64{math.MinInt64, -1, 0, api.MaxRev + 1, math.MaxInt64} {
			l := row(6, 2, 2, 2, 2)
			l[place].Term = term
			if entry.Run(5, 2, l) {
				t.Errorf("Term %d at %d", term, place)
			}
		}
		l := row(6, 2, 2, 2, 2)
		l[place] = api.Entry{}
		if entry.Run(5, 2, l) {
			t.Errorf("a zero one at %d", place)
		}
	}
}

// P7.1: what is a run is one in each of its parts, and none with anything of it changed that matters.
func TestRunAndItsParts(t *testing.T) {
	r := rand.New(rand.NewSource(7))
	for range 2000 {
		index, term := r.Int63n(50), r.Int63n(5)
		l := []api.Entry{}
		for i := range 1 + r.Intn(6) {
			last := term
			if i > 0 {
				last = l[i-1].Term
			}
			l = append(l, at(index+1+int64(i), last+int64(r.Intn(3))+1))
		}
		if !entry.Run(index, term, l) {
			t.Fatalf("no run behind %d, %d: %v", index, term, l)
		}
		for n := range l {
			if !entry.Run(index, term, l[:n]) || !entry.Run(l[n].Index, l[n].Term, l[n+1:]) {
				t.Fatalf("no run in parts at %d behind %d, %d: %v", n, index, term, l)
			}
			off := slices.Clone(l)
			off[n].Index += int64(1 + r.Intn(3))
			low := slices.Clone(l)
			low[n].Term = term - 1
			if entry.Run(index, term, off) || entry.Run(index, term, low) {
				t.Fatalf("a run with one at %d changed, behind %d, %d: %v", n, index, term, l)
			}
		}
		for _, other := range []int64{index - 1, index + 1, -index - 1} {
			if entry.Run(other, term, l) {
				t.Fatalf("a run behind %d, %d: %v", other, term, l)
			}
		}
	}
}

// P7.3: as many, and alike one by one; Data of no bytes is one, nil or not.
func TestSame(t *testing.T) {
	wrong := api.Entry{Index: -1, Term: api.MaxRev + 1, Data: data(api.MaxData + 1)}
	for _, c := range []struct {
		name string
		a, b []api.Entry
		want bool
	}{
		{"none", nil, []api.Entry{}, true},
		{"none and one", nil, row(1, 1), false},
		{"none and a zero one", nil, []api.Entry{{}}, false},
		{"one and two", row(1, 1), row(1, 1, 1), false},
		{"two and three", row(1, 1, 2), row(1, 1, 2, 2), false},
		{"the last one of two", row(2, 2), row(1, 1, 2), false},
		{"alike", row(1, 1, 2, 3), row(1, 1, 2, 3), true},
		{"other Terms", row(1, 1, 2, 3), row(1, 1, 2, 4), false},
		{"other Indexes", row(1, 1, 1), row(2, 1, 1), false},
		{"another order", []api.Entry{at(1, 1), at(2, 1)}, []api.Entry{at(2, 1), at(1, 1)}, false},
		{"twice the first one", []api.Entry{at(1, 1), at(2, 1)}, []api.Entry{at(1, 1), at(1, 1)}, false},
		{"no Data", []api.Entry{{Index: 1, Term: 1}}, []api.Entry{{Index: 1, Term: 1, Data: []byte{}}}, true},
		{"zero ones", []api.Entry{{}, {}}, []api.Entry{{}, {Data: []byte{}}}, true},
		{"wrong ones, alike", []api.Entry{wrong, wrong}, []api.Entry{wrong, wrong}, true},
		{"wrong ones, not as many", []api.Entry{wrong, wrong}, []api.Entry{wrong}, false},
		{"a wrong one and a zero one", []api.Entry{wrong}, []api.Entry{{}}, false},
		{"no run, alike", []api.Entry{at(5, 2), at(3, 1)}, []api.Entry{at(5, 2), at(3, 1)}, true},
	} {
		if got := entry.Same(c.a, c.b); got != c.want {
			t.Errorf("%s: %v", c.name, got)
		}
		if got := entry.Same(c.b, c.a); got != c.want {
			t.Errorf("%s, the other way round: %v", c.name, got)
		}
		if !entry.Same(c.a, c.a) || !entry.Same(c.b, c.b) {
			t.Errorf("%s: not the same as itself", c.name)
		}
	}
}

// P7.3: lists that differ in one place, in one field, aren't the same; of entries that aren't right neither.
func TestSameOfOneField(t *testing.T) {
	for _, wrong := range []int64{0, -100, 2 * api.MaxRev} {
		for place := range 4 {
			l := []api.Entry{}
			for i := range int64(4) {
				l = append(l, api.Entry{Index: wrong + i, Term: wrong + 3, Data: []byte{1, byte(i), 0}})
			}
			for name, change := range map[string]func(e *api.Entry){
				"a higher Index":       func(e *api.Entry) { e.Index++ },
				"a far Index":          func(e *api.Entry) { e.Index += 1 << 32 },
				"a lower Term":         func(e *api.Entry) { e.Term-- },
				"a far Term":           func(e *api.Entry) { e.Term -= 1 << 32 },
				"another first byte":   func(e *api.Entry) { e.Data = []byte{2, e.Data[1], 0} },
				"another last byte":    func(e *api.Entry) { e.Data = []byte{1, e.Data[1], 1} },
				"a byte less":          func(e *api.Entry) { e.Data = e.Data[:2] },
				"a byte more":          func(e *api.Entry) { e.Data = append(slices.Clone(e.Data), 0) },
				"no bytes":             func(e *api.Entry) { e.Data = nil },
				"Index for Term":       func(e *api.Entry) { e.Index, e.Term = e.Term+1, e.Index },
				"more than is allowed": func(e *api.Entry) { e.Data = data(api.MaxData + 2) },
			} {
				other := slices.Clone(l)
				change(&other[place])
				if entry.Same(l, other) || entry.Same(other, l) {
					t.Errorf("%s at %d from %d", name, place, wrong)
				}
			}
			other := slices.Clone(l)
			other[place].Data = slices.Clone(l[place].Data)
			if !entry.Same(l, other) {
				t.Errorf("the same bytes elsewhere at %d from %d", place, wrong)
			}
		}
	}
}

// R3: Run and Same leave what they are given as it is, with its spare room; what they told hangs on nothing later.
func TestListsStay(t *testing.T) {
	whole := row(1, 1, 1, 2, 3)
	l := whole[:3]
	want := fmt.Sprint(whole)
	if !entry.Run(0, 0, l) || !entry.Same(l, row(1, 1, 1, 2)) || entry.Same(l, whole) || entry.Run(1, 1, l) {
		t.Error("of a list with spare room")
	}
	if fmt.Sprint(whole) != want {
		t.Errorf("%v, want %v", whole, want)
	}
	l[1].Term = 3
	if entry.Run(0, 0, l) || entry.Same(l, row(1, 1, 1, 2)) {
		t.Error("of a list that was changed")
	}
}
