package rmsg_test

import (
	"math/rand"
	"slices"
	"testing"

	"decamp/api"
	"decamp/rmsg"
)

// P11.1: a zero message isn't right, the chapter's example.
func TestRightOfZero(t *testing.T) {
	if rmsg.Right(rmsg.Msg{}) {
		t.Error("a zero message is right")
	}
}

// P11.1: of each Kind one that has all that its Kind has is right, at the least and at the most, and one isn't that has a step more.
func TestRight(t *testing.T) {
	for _, m := range rights() {
		if !rmsg.Right(m) {
			t.Errorf("not right: %s", show(m))
		}
	}
	for _, m := range wrongs() {
		if rmsg.Right(m) {
			t.Errorf("right: %s", show(m))
		}
	}
}

// P11.1: From and To are nodes, and unlike, whatever the Kind.
func TestRightOfNodes(t *testing.T) {
	for kind := 1; kind <= 7; kind++ {
		for from := -2; from <= 5; from++ {
			for to := -2; to <= 5; to++ {
				m := some(kind)
				m.From, m.To = from, to
				want := from >= 0 && from <= 2 && to >= 0 && to <= 2 && from != to
				if rmsg.Right(m) != want {
					t.Errorf("%s from %d to %d: Right is %v", kinds[kind], from, to, !want)
				}
			}
		}
	}
}

// P11.1: each number that a Kind has may be 0 to MaxRev, whatever the others are, and one that it hasn't is 0.
func TestRightOfNumbers(t *testing.T) {
	for kind := 1; kind <= 7; kind++ {
		for _, n := range numbers() {
			has := slices.Contains(n.of, kind)
			for _, base := range []rmsg.Msg{least(kind), most(kind)} {
				// Entries and numbers of an App hang together, which is held elsewhere.
				base.Entries = nil
				for _, v := range []int64{-1 << 63, -1, 0, 1, 2, 1 << 32, api.MaxRev - 1, api.MaxRev, api.MaxRev + 1, 1<<63 - 1} {
					m := base
					*n.at(&m) = v
					want := v == 0 || has && v > 0 && v <= api.MaxRev
					if rmsg.Right(m) != want {
						t.Errorf("%s of %s %d: Right is %v", kinds[kind], n.name, v, !want)
					}
				}
			}
		}
	}
}

// P11.1: the message's Term is 1 to MaxRev; LogTerm of what has no entries isn't held against it.
func TestRightOfTerms(t *testing.T) {
	for kind := 1; kind <= 7; kind++ {
		for _, v := range []int64{-1 << 63, -api.MaxRev, -1, 0, 1, 2, api.MaxRev - 1, api.MaxRev, api.MaxRev + 1, 1<<63 - 1} {
			m := some(kind)
			m.Entries = nil
			m.Term = v
			want := v >= 1 && v <= api.MaxRev
			if rmsg.Right(m) != want {
				t.Errorf("%s of Term %d: Right is %v", kinds[kind], v, !want)
			}
		}
	}
}

// P11.1: nil, and what has no elements, is no entries and no Data for each Kind.
func TestRightOfEmpty(t *testing.T) {
	for kind := 1; kind <= 7; kind++ {
		m := least(kind)
		m.Entries = []api.Entry{}
		m.Snap.Data = []byte{}
		if !rmsg.Right(m) {
			t.Errorf("%s with what is empty isn't right", kinds[kind])
		}
	}
}

// P11.1: an App has at most MaxBatch entries, and any number up to that.
func TestRightOfBatches(t *testing.T) {
	for n := range 12 {
		m := rmsg.Msg{Kind: 5, From: 0, To: 2, Term: 3, Index: 5, LogTerm: 3, Entries: run(5, 3, n)}
		if rmsg.Right(m) != (n <= 4) {
			t.Errorf("with %d entries: Right is %v", n, n > 4)
		}
	}
}

// P11.1: all runs and no runs of up to three entries of few numbers, held against the words of layer 7 and of the chapter.
func TestRightOfRuns(t *testing.T) {
	var lists [][]api.Entry
	var grow func(l []api.Entry)
	grow = func(l []api.Entry) {
		lists = append(lists, slices.Clone(l))
		if len(l) == 3 {
			return
		}
		for index := int64(0); index <= 4; index++ {
			for term := int64(0); term <= 3; term++ {
				grow(append(slices.Clone(l), api.Entry{Index: index, Term: term}))
			}
		}
	}
	grow(nil)
	for index := int64(0); index <= 2; index++ {
		for logTerm := int64(0); logTerm <= 2; logTerm++ {
			for term := int64(1); term <= 2; term++ {
				for _, l := range lists {
					m := rmsg.Msg{Kind: 5, From: 2, To: 1, Term: term, Index: index, LogTerm: logTerm, Entries: l}
					if want := mayFollow(m); rmsg.Right(m) != want {
						t.Fatalf("Right is %v of %s", !want, show(m))
					}
				}
			}
		}
	}
}

// mayFollow tells by the chapter's words whether an App's entries may stand behind its Index and LogTerm.
func mayFollow(m rmsg.Msg) bool {
	terms := []int64{m.LogTerm}
	for k, e := range m.Entries {
		if e.Index != m.Index+int64(k)+1 || e.Term < 1 || e.Term > m.Term {
			return false
		}
		terms = append(terms, e.Term)
	}
	return slices.IsSorted(terms) && len(m.Entries) <= 4
}

// P11.1: random messages, each part of few things, held against the chapter's table.
func TestRightOfRandom(t *testing.T) {
	r := rand.New(rand.NewSource(11))
	found := [8]int{}
	for range 300000 {
		m := random(r)
		want := inTable(m)
		if rmsg.Right(m) != want {
			t.Fatalf("Right is %v of %s", !want, show(m))
		}
		if want {
			found[m.Kind]++
		}
	}
	for kind := 1; kind <= 7; kind++ {
		if found[kind] < 20 {
			t.Errorf("only %d of %s were right", found[kind], kinds[kind])
		}
	}
}

func random(r *rand.Rand) rmsg.Msg {
	rare := func() int64 {
		if r.Intn(3) > 0 {
			return 0
		}
		return int64(r.Intn(4) - 1)
	}
	m := rmsg.Msg{Kind: r.Intn(10) - 1, From: r.Intn(5) - 1, To: r.Intn(5) - 1, Term: int64(r.Intn(4))}
	m.Index, m.LogTerm, m.Commit, m.Ctx = rare(), rare(), rare(), rare()
	m.Ok = r.Intn(3) == 0
	if r.Intn(3) == 0 {
		m.Entries = run(m.Index, int64(r.Intn(4)), r.Intn(6))
	}
	if m.Kind == 7 || r.Intn(3) == 0 {
		m.Snap = api.Snap{Index: rare(), Term: rare(), Data: data(int(rare() + 1))}
	}
	return m
}

// inTable tells by the chapter's words whether a message is right, for what random makes.
func inTable(m rmsg.Msg) bool {
	if m.Kind < 1 || m.Kind > 7 || m.From < 0 || m.From > 2 || m.To < 0 || m.To > 2 || m.From == m.To || m.Term < 1 {
		return false
	}
	for _, n := range numbers() {
		if v := *n.at(&m); v < 0 || v > 0 && !slices.Contains(n.of, m.Kind) {
			return false
		}
	}
	s := m.Snap
	switch {
	case m.Ok && !hasOk(m.Kind):
		return false
	case m.Kind == 7:
		return s.Index > 0 && s.Term > 0 && len(m.Entries) == 0
	case s.Index != 0 || s.Term != 0 || len(s.Data) > 0:
		return false
	case m.Kind == 5:
		return mayFollow(m)
	}
	return len(m.Entries) == 0
}
