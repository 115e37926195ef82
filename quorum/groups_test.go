package quorum_test

import (
	"math/bits"
	"math/rand"
	"testing"

	"decamp/quorum"
)

// group is some of up to 10 nodes, a bit each.
type group uint

// won tells whether a group is more than half of n nodes.
func (g group) won(n int) bool { return quorum.Won(bits.OnesCount(uint(g)), n) }

// those is the group of the nodes whose number has it.
func those(l []int64, has func(v int64) bool) group {
	g := group(0)
	for i, v := range l {
		if has(v) {
			g |= 1 << i
		}
	}
	return g
}

// P9.2: of any two groups that are more than half of up to 10 nodes each there is one node in both.
func TestTwoGroups(t *testing.T) {
	for n := 1; n <= 10; n++ {
		all := group(1)<<n - 1
		for one := range all + 1 {
			for two := range all + 1 {
				if one.won(n) && two.won(n) && one&two == 0 {
					t.Fatalf("of %d nodes: %b and %b are more than half, and none is in both", n, one, two)
				}
			}
		}
	}
}

// P9.2: where a group has won, the rest has lost; where a group is against it, the rest has won just if it hasn't lost; a group is more than half just where no other one of its size can stand apart from it.
func TestTheRest(t *testing.T) {
	for n := 1; n <= 10; n++ {
		all := group(1)<<n - 1
		for one := range all + 1 {
			size := bits.OnesCount(uint(one))
			if one.won(n) && !quorum.Lost(size, n) {
				t.Errorf("of %d nodes, %b: it won, and the rest hasn't lost", n, one)
			}
			if rest := all &^ one; rest.won(n) == quorum.Lost(size, n) {
				t.Errorf("of %d nodes: %b is against it, the rest won %v", n, one, rest.won(n))
			}
			if one.won(n) == (2*size <= n) {
				t.Errorf("of %d nodes, %b: won %v, and another one as great can stand apart: %v", n, one, one.won(n), 2*size <= n)
			}
		}
	}
}

// heldGroups holds P9.2 for nodes with these numbers: what a group has reached, no other group is wholly below.
func heldGroups(t *testing.T, l []int64) {
	t.Helper()
	n := len(l)
	v := quorum.Reached(l...)
	if !those(l, func(w int64) bool { return w >= v }).won(n) {
		t.Fatalf("%d: no group has reached %d", l, v)
	}
	below := those(l, func(w int64) bool { return w < v })
	for other := range group(1) << n {
		if other.won(n) && other&^below == 0 {
			t.Fatalf("%d: the group %b is more than half, and all of it is below %d", l, other, v)
		}
	}
	for _, x := range l {
		notAhead := those(l, func(w int64) bool { return w <= x })
		if x < v && notAhead.won(n) {
			t.Fatalf("%d: one of %d would be followed by %b, and %d is reached", l, x, notAhead, v)
		}
		if x > v && those(l, func(w int64) bool { return w >= x }).won(n) {
			t.Fatalf("%d: %d is reached, not only %d", l, x, v)
		}
	}
}

// P9.2: every way in which up to 5 nodes have few numbers, and random ones of up to 10.
func TestReachedByGroups(t *testing.T) {
	for n := 1; n <= 5; n++ {
		each(n, []int64{least, -1, 0, greatest}, func(l []int64) { heldGroups(t, l) })
	}
	r := rand.New(rand.NewSource(92))
	for range 1000 {
		l := make([]int64, 1+r.Intn(10))
		for i := range l {
			l[i] = r.Int63n(6) - 2
		}
		heldGroups(t, l)
	}
}
