package quorum_test

import (
	"math"
	"math/rand"
	"slices"
	"testing"

	"decamp/quorum"
)

const (
	least    = math.MinInt64
	greatest = math.MaxInt64
)

// reach is how many of l aren't below v.
func reach(v int64, l []int64) int {
	n := 0
	for _, w := range l {
		if w >= v {
			n++
		}
	}
	return n
}

// counted is P9.1's Reached word by word: of all of l that more than half reach, the greatest one.
func counted(l []int64) int64 {
	found := []int64{}
	for _, v := range l {
		if 2*reach(v, l) > len(l) {
			found = append(found, v)
		}
	}
	if len(found) == 0 {
		return 0
	}
	return slices.Max(found)
}

// each calls f with every list of size numbers that are each one of these.
func each(size int, these []int64, f func(l []int64)) {
	l := make([]int64, size)
	var fill func(at int)
	fill = func(at int) {
		if at == size {
			f(l)
			return
		}
		for _, v := range these {
			l[at] = v
			fill(at + 1)
		}
	}
	fill(0)
}

// orders calls f with l in each order.
func orders(l []int64, f func(l []int64)) {
	var swap func(at int)
	swap = func(at int) {
		if at >= len(l) {
			f(l)
			return
		}
		for i := at; i < len(l); i++ {
			l[at], l[i] = l[i], l[at]
			swap(at + 1)
			l[at], l[i] = l[i], l[at]
		}
	}
	swap(0)
}

// P9.1: of none, however they are none, it is 0.
func TestReachedOfNone(t *testing.T) {
	some := []int64{7, 8, 9}
	for _, l := range [][]int64{nil, {}, make([]int64, 0, 5), some[:0], some[3:]} {
		if got := quorum.Reached(l...); got != 0 {
			t.Errorf("of none: %d", got)
		}
	}
	if got := quorum.Reached(); got != 0 {
		t.Errorf("of nothing: %d", got)
	}
}

// P9.1: the chapter's example, and others of which each tells its answer, in each order.
func TestReachedKnown(t *testing.T) {
	if got := quorum.Reached(3, 1, 2); got != 2 {
		t.Errorf("the chapter's example: %d, want 2", got)
	}
	for _, c := range []struct {
		l    []int64
		want int64
	}{
		{[]int64{0}, 0},
		{[]int64{5}, 5},
		{[]int64{-5}, -5},
		{[]int64{least}, least},
		{[]int64{greatest}, greatest},
		{[]int64{1, 2}, 1},
		{[]int64{0, 9}, 0},
		{[]int64{-9, 0}, -9},
		{[]int64{4, 4}, 4},
		{[]int64{least, greatest}, least},
		{[]int64{1, 2, 3}, 2},
		{[]int64{0, 0, 9}, 0},
		{[]int64{0, 9, 9}, 9},
		{[]int64{-3, -2, -1}, -2},
		{[]int64{-9, -9, 0}, -9},
		{[]int64{7, 7, 7}, 7},
		{[]int64{least, 0, greatest}, 0},
		{[]int64{least, least, greatest}, least},
		{[]int64{least, greatest, greatest}, greatest},
		{[]int64{greatest - 1, greatest, greatest}, greatest},
		{[]int64{least, least, least + 1}, least},
		{[]int64{1, 2, 3, 4}, 2},
		{[]int64{1, 1, 2, 2}, 1},
		{[]int64{1, 2, 2, 2}, 2},
		{[]int64{1, 2, 2, 9}, 2},
		{[]int64{-4, -3, -2, -1}, -3},
		{[]int64{6, 6, 6, 6}, 6},
		{[]int64{least, least, greatest, greatest}, least},
		{[]int64{1, 2, 3, 4, 5}, 3},
		{[]int64{1, 1, 1, 2, 2}, 1},
		{[]int64{1, 1, 2, 2, 2}, 2},
		{[]int64{-2, -1, 0, 1, 2}, 0},
		{[]int64{9, 10, 100, 1000, 1 << 40}, 100},
		{[]int64{1, 2, 3, 4, 5, 6}, 3},
		{[]int64{1, 2, 3, 4, 5, 6, 7}, 4},
		{[]int64{0, 0, 0, 1, 1, 1, 1}, 1},
		{[]int64{0, 0, 0, 0, 1, 1, 1}, 0},
	} {
		orders(c.l, func(l []int64) {
			if got := quorum.Reached(l...); got != c.want {
				t.Fatalf("Reached of %d: %d, want %d", l, got, c.want)
			}
		})
	}
}

// P9.1: every list of up to 7, of few numbers, so that there is each order, and each way in which some are the same.
func TestReachedOfAllLists(t *testing.T) {
	for _, these := range [][]int64{
		{0, 1, 2, 3},
		{-1, 0, 1},
		{least, 0, greatest},
		{least, least + 1, greatest - 1, greatest},
		{-1 << 40, -1 << 32, 1 << 32, 1 << 40},
	} {
		for size := range 8 {
			each(size, these, func(l []int64) {
				if got, want := quorum.Reached(l...), counted(l); got != want {
					t.Fatalf("Reached of %d: %d, want %d", l, got, want)
				}
			})
		}
	}
}

// P9.1: the numbers from 1 on, of many lengths: half of them and one reach the answer, or, of an odd length, the middle one is it.
func TestReachedOfLengths(t *testing.T) {
	r := rand.New(rand.NewSource(9))
	for _, size := range []int{1, 2, 3, 4, 5, 11, 12, 13, 14, 49, 50, 51, 63, 64, 65, 255, 256, 257, 1000, 1001, 1 << 17, 1<<17 + 1} {
		rising := make([]int64, size)
		for i := range rising {
			rising[i] = int64(i) + 1
		}
		falling := slices.Clone(rising)
		slices.Reverse(falling)
		mixed := slices.Clone(rising)
		r.Shuffle(size, func(i, j int) { mixed[i], mixed[j] = mixed[j], mixed[i] })
		organ := append(slices.Clone(rising[size/2:]), falling[size-size/2:]...)
		want := int64(size+1) / 2
		for _, l := range [][]int64{rising, falling, mixed, organ} {
			if got := quorum.Reached(l...); got != want {
				t.Errorf("Reached of %d numbers: %d, want %d", size, got, want)
			}
		}
		same := slices.Repeat([]int64{-7}, size)
		if got := quorum.Reached(same...); got != -7 {
			t.Errorf("Reached of %d times -7: %d", size, got)
		}
	}
}

// P9.1: random numbers, near each other and far apart, against counting.
func TestReachedOfRandom(t *testing.T) {
	r := rand.New(rand.NewSource(91))
	kinds := []func() int64{
		func() int64 { return r.Int63n(5) - 2 },
		func() int64 { return r.Int63n(100) },
		func() int64 { return int64(r.Uint64()) },
		func() int64 { return least + r.Int63n(4) },
		func() int64 { return greatest - r.Int63n(4) },
		func() int64 { return []int64{least, -1, 0, 1, greatest}[r.Intn(5)] },
	}
	for turn := range 20000 {
		l := make([]int64, r.Intn(24))
		for i := range l {
			l[i] = kinds[turn%len(kinds)]()
		}
		if got, want := quorum.Reached(l...), counted(l); got != want {
			t.Fatalf("Reached of %d: %d, want %d", l, got, want)
		}
	}
}

// R3: a list that is handed in stays as it is, and so does what stands around it.
func TestReachedLeavesIt(t *testing.T) {
	room := []int64{9, -4, 8, 3, 7, 3, greatest, 1, least, 2, 0}
	was := slices.Clone(room)
	for from := range room {
		for to := from; to <= len(room); to++ {
			for most := to; most <= len(room); most++ {
				l := room[from:to:most]
				if got, want := quorum.Reached(l...), counted(was[from:to]); got != want {
					t.Errorf("Reached of %d: %d, want %d", l, got, want)
				}
				if !slices.Equal(room, was) {
					t.Fatalf("what was handed in became %d, it was %d", room, was)
				}
			}
		}
	}
}

// R2, R3: nothing is kept: an answer is of what is handed in then, whatever was handed in ahead of it, and became of it.
func TestReachedKeepsNothing(t *testing.T) {
	l := []int64{5, 1, 4, 2, 3}
	for range 3 {
		if got := quorum.Reached(l...); got != 3 {
			t.Errorf("Reached of %d: %d", l, got)
		}
		if got := quorum.Reached(); got != 0 {
			t.Errorf("Reached of none, behind others: %d", got)
		}
	}
	quorum.Reached(100, 200, 300, 400, 500, 600)
	clear(l)
	if got := quorum.Reached(l...); got != 0 {
		t.Errorf("Reached of %d: %d", l, got)
	}
	if got := quorum.Reached(6, 8); got != 6 {
		t.Errorf("Reached of 6, 8: %d", got)
	}
}
