package order

import (
	"math/rand"
	"testing"
)

// longest counts the keys on the longest way down, and tells where a node's notes of itself are wrong.
func longest(t *testing.T, n *node[int, int]) (deep, size int) {
	t.Helper()
	if n == nil {
		return 0, 0
	}
	ld, ls := longest(t, n.left)
	rd, rs := longest(t, n.right)
	deep, size = max(ld, rd)+1, ls+rs+1
	if n.deep != deep || n.size != size || ld > rd+1 || rd > ld+1 {
		t.Fatal("node", n.pair.Key, n.deep, deep, n.size, size, ld, rd)
	}
	return deep, size
}

func TestDeepIsTheLongestWay(t *testing.T) {
	r := rand.New(rand.NewSource(3))
	var m Map[int, int]
	for i := range 4000 {
		if k := r.Intn(400); r.Intn(4000) > i {
			m = m.Put(k, i)
		} else {
			m = m.Del(k)
		}
		if d, n := longest(t, m.root); d != m.Deep() || n != m.Len() {
			t.Fatal(d, m.Deep(), n, m.Len())
		}
	}
}
