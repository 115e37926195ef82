// Package order is layer 1: keys in order, each with a value, in maps that never change. See shared/doc/01-order.md.
package order

import (
	"cmp"
)

// Pair is a key and its value.
type Pair[K cmp.Ordered, V any] struct {
	Key K
	V   V
}

// Map holds keys in order. It is a value: a changed one is another one. The zero Map has no keys.
// Keys stand as cmp.Compare has them, so that even one that isn't a number has its place.
type Map[K cmp.Ordered, V any] struct {
	root *node[K, V]
}

// Put is the map in which k has v, all else as it was.
func (m Map[K, V]) Put(k K, v V) Map[K, V] {
	return Map[K, V]{m.root.put(Pair[K, V]{k, v})}
}

// Del is the map without k: the same one, if k isn't there.
func (m Map[K, V]) Del(k K) Map[K, V] {
	if m.root.find(k) == nil {
		return m
	}
	return Map[K, V]{m.root.del(k)}
}

// Get tells what k has, and whether it is there.
func (m Map[K, V]) Get(k K) (V, bool) {
	if n := m.root.find(k); n != nil {
		return n.pair.V, true
	}
	var none V
	return none, false
}

// Len tells how many keys there are.
func (m Map[K, V]) Len() int { return m.root.count() }

// At tells the pair with i keys below its own, and whether there is one.
func (m Map[K, V]) At(i int) (Pair[K, V], bool) {
	if i < 0 || i >= m.Len() {
		return Pair[K, V]{}, false
	}
	return m.root.at(i), true
}

// Rank tells how many keys are below k.
func (m Map[K, V]) Rank(k K) int {
	below := 0
	for n := m.root; n != nil; {
		if cmp.Less(n.pair.Key, k) {
			below += n.left.count() + 1
			n = n.right
		} else {
			n = n.left
		}
	}
	return below
}

// Between tells the pairs whose keys are from or above, and below to, rising.
func (m Map[K, V]) Between(from, to K) []Pair[K, V] {
	return m.places(m.Rank(from), m.Rank(to))
}

// All tells all pairs, rising.
func (m Map[K, V]) All() []Pair[K, V] { return m.places(0, m.Len()) }

// Deep tells how many keys are looked at, at most, to find one.
func (m Map[K, V]) Deep() int { return m.root.depth() }

// places tells the pairs at the places from from on, below to, in a list without spare room.
func (m Map[K, V]) places(from, to int) []Pair[K, V] {
	if from >= to {
		return nil
	}
	return m.root.gather(make([]Pair[K, V], 0, to-from), from, to)
}
