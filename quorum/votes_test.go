package quorum_test

import (
	"math"
	"math/big"
	"testing"

	"decamp/quorum"
)

// half tells how 2k stands to n: -1 below, 0 just half, 1 above; by numbers that have no end.
func half(k, n int) int {
	twice := new(big.Int).Mul(big.NewInt(2), big.NewInt(int64(k)))
	return twice.Cmp(big.NewInt(int64(n)))
}

// without is how half stands to what is left of n without k.
func without(k, n int) int {
	left := new(big.Int).Sub(big.NewInt(int64(n)), big.NewInt(int64(k)))
	return left.Mul(left, big.NewInt(2)).Cmp(big.NewInt(int64(n)))
}

// heldVotes holds Won and Lost of one count and one n against P9.1's words.
func heldVotes(t *testing.T, k, n int) {
	t.Helper()
	right := n >= 1 && k >= 0 && k <= n
	if got, want := quorum.Won(k, n), right && half(k, n) > 0; got != want {
		t.Errorf("Won of %d, %d: %v", k, n, got)
	}
	if got, want := quorum.Lost(k, n), right && without(k, n) <= 0; got != want {
		t.Errorf("Lost of %d, %d: %v", k, n, got)
	}
}

// P9.1: the chapter's examples, and others of which each tells its answers.
func TestVotesKnown(t *testing.T) {
	for _, c := range []struct {
		k, n      int
		won, lost bool
	}{
		{0, 1, false, false},
		{1, 1, true, true},
		{0, 2, false, false},
		{1, 2, false, true},
		{2, 2, true, true},
		{0, 3, false, false},
		{1, 3, false, false},
		{2, 3, true, true},
		{3, 3, true, true},
		{1, 4, false, false},
		{2, 4, false, true},
		{3, 4, true, true},
		{4, 4, true, true},
		{2, 5, false, false},
		{3, 5, true, true},
		{49, 100, false, false},
		{50, 100, false, true},
		{51, 100, true, true},
		{50, 101, false, false},
		{51, 101, true, true},
	} {
		if got := quorum.Won(c.k, c.n); got != c.won {
			t.Errorf("Won of %d, %d: %v", c.k, c.n, got)
		}
		if got := quorum.Lost(c.k, c.n); got != c.lost {
			t.Errorf("Lost of %d, %d: %v", c.k, c.n, got)
		}
	}
}

// P9.1: of an n below 1 both are false, however many there are, and so are they of a count that isn't 0 to n.
func TestVotesThatArent(t *testing.T) {
	counts := []int{math.MinInt, math.MinInt + 1, math.MinInt / 2, -3, -2, -1, 0, 1, 2, 3, math.MaxInt / 2, math.MaxInt - 1, math.MaxInt}
	for _, n := range []int{math.MinInt, math.MinInt + 1, math.MinInt / 2, -3, -2, -1, 0} {
		for _, k := range append([]int{n - 1, n, n + 1, n / 2, -n}, counts...) {
			if quorum.Won(k, n) || quorum.Lost(k, n) {
				t.Errorf("%d of %d: Won %v, Lost %v", k, n, quorum.Won(k, n), quorum.Lost(k, n))
			}
		}
	}
	for _, n := range []int{1, 2, 3, 4, 5, 100, 101, math.MaxInt/2 + 1, math.MaxInt - 1, math.MaxInt} {
		for _, k := range append([]int{n + 1, n + 2, 2 * n, -n}, counts...) {
			if (k < 0 || k > n) && (quorum.Won(k, n) || quorum.Lost(k, n)) {
				t.Errorf("%d of %d: Won %v, Lost %v", k, n, quorum.Won(k, n), quorum.Lost(k, n))
			}
		}
	}
}

// P9.1: every count around every small n.
func TestVotesOfAllSmall(t *testing.T) {
	for n := -5; n <= 60; n++ {
		for k := -5; k <= 66; k++ {
			heldVotes(t, k, n)
		}
	}
}

// P9.1: counts around none, half and all of n, and the ends, of n that are great, too.
func TestVotesAtEdges(t *testing.T) {
	sizes := []int{1, 2, 3, 4, 999, 1000, math.MaxInt32, math.MaxInt32 + 1, math.MaxInt/2 - 1, math.MaxInt / 2, math.MaxInt/2 + 1, math.MaxInt - 2, math.MaxInt - 1, math.MaxInt}
	for _, n := range sizes {
		for _, near := range []int{0, n / 2, n - n/2, n, math.MinInt, math.MaxInt, math.MinInt / 2, math.MaxInt / 2} {
			for off := -2; off <= 2; off++ {
				heldVotes(t, near+off, n)
			}
		}
	}
	if quorum.Won(math.MaxInt/2, math.MaxInt) || !quorum.Won(math.MaxInt/2+1, math.MaxInt) {
		t.Errorf("Won of the greatest int: one of its halves isn't as it is to be")
	}
	if quorum.Lost(math.MaxInt/2, math.MaxInt) || !quorum.Lost(math.MaxInt/2+1, math.MaxInt) {
		t.Errorf("Lost of the greatest int: one of its halves isn't as it is to be")
	}
}

// P9.1: a yes more never takes what is won, nor a no more what is lost; all yeses win, all noes lose.
func TestVotesRise(t *testing.T) {
	for n := 1; n <= 60; n++ {
		for k := range n {
			if quorum.Won(k, n) && !quorum.Won(k+1, n) || quorum.Lost(k, n) && !quorum.Lost(k+1, n) {
				t.Errorf("of %d: %d and one more", n, k)
			}
		}
		if quorum.Won(0, n) || quorum.Lost(0, n) || !quorum.Won(n, n) || !quorum.Lost(n, n) {
			t.Errorf("of %d: none, or all", n)
		}
	}
}

// P9.1: of yeses and noes of one count never both are enough; when all were asked one is.
func TestNeverBoth(t *testing.T) {
	for n := 1; n <= 60; n++ {
		for yes := 0; yes <= n; yes++ {
			for no := 0; no <= n-yes; no++ {
				won, lost := quorum.Won(yes, n), quorum.Lost(no, n)
				if won && lost {
					t.Errorf("%d yeses and %d noes of %d: won and lost", yes, no, n)
				}
				if yes+no == n && !won && !lost {
					t.Errorf("%d yeses and %d noes of %d: neither won nor lost", yes, no, n)
				}
			}
		}
	}
	for _, n := range []int{math.MaxInt - 1, math.MaxInt} {
		for _, yes := range []int{0, 1, n/2 - 1, n / 2, n/2 + 1, n/2 + 2, n - 1, n} {
			if no := n - yes; quorum.Won(yes, n) == quorum.Lost(no, n) {
				t.Errorf("%d yeses and %d noes of %d: won %v", yes, no, n, quorum.Won(yes, n))
			}
		}
	}
}
