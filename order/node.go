package order

import (
	"cmp"
)

// node is the top of a tree: what is below pair's key stands left of it, what is above right of it.
// A node isn't written to any more once it is made: many maps share it.
// The depths of its two sides differ by one at most: this alone keeps Deep within its bound.
type node[K cmp.Ordered, V any] struct {
	pair        Pair[K, V]
	left, right *node[K, V]
	size, deep  int
}

func (n *node[K, V]) count() int {
	if n == nil {
		return 0
	}
	return n.size
}

func (n *node[K, V]) depth() int {
	if n == nil {
		return 0
	}
	return n.deep
}

// join makes a node of two sides whose depths differ by one at most.
func join[K cmp.Ordered, V any](left *node[K, V], p Pair[K, V], right *node[K, V]) *node[K, V] {
	return &node[K, V]{
		pair:  p,
		left:  left,
		right: right,
		size:  left.count() + 1 + right.count(),
		deep:  max(left.depth(), right.depth()) + 1,
	}
}

// balance is join for sides whose depths differ by two at most, as they do behind one Put or Del.
func balance[K cmp.Ordered, V any](left *node[K, V], p Pair[K, V], right *node[K, V]) *node[K, V] {
	switch {
	case left.depth() > right.depth()+1:
		return leanRight(left, p, right)
	case right.depth() > left.depth()+1:
		return leanLeft(left, p, right)
	}
	return join(left, p, right)
}

// leanRight joins a left side that is too deep by one.
func leanRight[K cmp.Ordered, V any](left *node[K, V], p Pair[K, V], right *node[K, V]) *node[K, V] {
	mid := left.right
	if mid.depth() <= left.left.depth() {
		return join(left.left, left.pair, join(mid, p, right))
	}
	// The depth is in the middle: a single turn would only carry it over to the other side.
	return join(join(left.left, left.pair, mid.left), mid.pair, join(mid.right, p, right))
}

// leanLeft joins a right side that is too deep by one.
func leanLeft[K cmp.Ordered, V any](left *node[K, V], p Pair[K, V], right *node[K, V]) *node[K, V] {
	mid := right.left
	if mid.depth() <= right.right.depth() {
		return join(join(left, p, mid), right.pair, right.right)
	}
	return join(join(left, p, mid.left), mid.pair, join(mid.right, right.pair, right.right))
}

func (n *node[K, V]) find(k K) *node[K, V] {
	for n != nil {
		switch c := cmp.Compare(k, n.pair.Key); {
		case c < 0:
			n = n.left
		case c > 0:
			n = n.right
		default:
			return n
		}
	}
	return nil
}

func (n *node[K, V]) put(p Pair[K, V]) *node[K, V] {
	if n == nil {
		return join(nil, p, nil)
	}
	switch c := cmp.Compare(p.Key, n.pair.Key); {
	case c < 0:
		return balance(n.left.put(p), n.pair, n.right)
	case c > 0:
		return balance(n.left, n.pair, n.right.put(p))
	}
	return join(n.left, p, n.right)
}

// del is asked only for a key that is there: of another one it would copy a path for nothing.
func (n *node[K, V]) del(k K) *node[K, V] {
	switch c := cmp.Compare(k, n.pair.Key); {
	case c < 0:
		return balance(n.left.del(k), n.pair, n.right)
	case c > 0:
		return balance(n.left, n.pair, n.right.del(k))
	case n.left == nil:
		return n.right
	case n.right == nil:
		return n.left
	}
	next := n.right.at(0)
	return balance(n.left, next, n.right.del(next.Key))
}

// at is asked only for a place that is there.
func (n *node[K, V]) at(i int) Pair[K, V] {
	for {
		here := n.left.count()
		switch {
		case i < here:
			n = n.left
		case i > here:
			n, i = n.right, i-here-1
		default:
			return n.pair
		}
	}
}

// gather lays the pairs at the places from from on, below to, behind those of l.
func (n *node[K, V]) gather(l []Pair[K, V], from, to int) []Pair[K, V] {
	if n == nil || to <= 0 || from >= n.size {
		return l
	}
	here := n.left.count()
	l = n.left.gather(l, from, to)
	if from <= here && here < to {
		l = append(l, n.pair)
	}
	return n.right.gather(l, from-here-1, to-here-1)
}
