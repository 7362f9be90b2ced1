package van

import (
	"iter"
	"math/bits"
)

// set has numbers from 0 on, each by its bit.
type set int

func single(n int) set { return 1 << n }

func setOf(l []int) set {
	var s set
	for _, n := range l {
		s |= single(n)
	}
	return s
}

func (s set) has(n int) bool { return s&single(n) != 0 }

func (s set) least() int { return bits.TrailingZeros(uint(s)) }

// numbers yields the numbers of a set, in order.
func (s set) numbers() iter.Seq[int] {
	return func(yield func(n int) bool) {
		for left := s; left != 0; left &= left - 1 {
			if !yield(left.least()) {
				return
			}
		}
	}
}

// parts yields the subsets that have the least number of a set which is not empty: the sets with which a division of it can begin.
func (s set) parts() iter.Seq[set] {
	return func(yield func(part set) bool) {
		first := single(s.least())
		others := s &^ first
		for more := others; yield(first | more); more = (more - 1) & others {
			if more == 0 {
				return
			}
		}
	}
}

// table holds what is known of the sets of the first few numbers.
type table[V any] struct {
	values []V
	known  []bool
}

func newTable[V any](numbers int) *table[V] {
	n := single(numbers)
	return &table[V]{values: make([]V, n), known: make([]bool, n)}
}

// all returns the set of all numbers.
func (t *table[V]) all() set { return set(len(t.values) - 1) }

// sets yields all sets but the empty one, each behind its subsets.
func (t *table[V]) sets() iter.Seq[set] {
	return func(yield func(s set) bool) {
		for s := set(1); s <= t.all(); s++ {
			if !yield(s) {
				return
			}
		}
	}
}

func (t *table[V]) put(s set, v V) { t.values[s], t.known[s] = v, true }

func (t *table[V]) get(s set) (V, bool) { return t.values[s], t.known[s] }

// divide returns of each set the least one of its divisions into sets that are known as parts. The division of the empty set is the zero value; before puts a part before a division of the numbers that are not in it.
func divide[P, D any](parts *table[P], before func(part P, others D) D, isLess func(a, b D) bool) *table[D] {
	var nothing D
	divisions := newTable[D](bits.Len(uint(parts.all())))
	divisions.put(0, nothing)
	for s := range parts.sets() {
		for part := range s.parts() {
			p, isPart := parts.get(part)
			others, divided := divisions.get(s &^ part)
			if !isPart || !divided {
				continue
			}
			division := before(p, others)
			if best, found := divisions.get(s); !found || isLess(division, best) {
				divisions.put(s, division)
			}
		}
	}
	return divisions
}
