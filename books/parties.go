package books

import (
	"iter"
	"math/bits"
	"slices"
)

// parties is a set of parties: bit i is set if party i is in it.
type parties uint

// withFirst yields the subsets of a set, which is not empty, that have its first party.
func (s parties) withFirst() iter.Seq[parties] {
	return func(yield func(part parties) bool) {
		first := s & -s
		others := s &^ first
		for part := others; ; part = (part - 1) & others {
			if !yield(part|first) || part == 0 {
				return
			}
		}
	}
}

// has reports whether a party is in a set.
func (s parties) has(party int) bool { return s>>party&1 == 1 }

// sum returns the sum of the balances of a set.
func (s parties) sum(l []int) int {
	total := 0
	for ; s != 0; s &= s - 1 {
		total += l[bits.TrailingZeros(uint(s))]
	}
	return total
}

// division divides a set of parties into groups, and numbers them; a party that is not in the set has 0.
type division struct {
	groups  int
	numbers [MaxParties]int
}

// before returns a division in which a group stands before those of d, which divides the other parties.
func (d division) before(others parties) division {
	d.groups++
	for i := range d.numbers {
		if others.has(i) {
			d.numbers[i]++
		}
	}
	return d
}

// isBetter reports whether a division has more groups than another one of the same set, or as many and is less.
func (d division) isBetter(other division) bool {
	if d.groups != other.groups {
		return d.groups > other.groups
	}
	return slices.Compare(d.numbers[:], other.numbers[:]) < 0
}

// divide returns for each party the number of its group.
func divide(l []int) []int {
	all := parties(1)<<len(l) - 1
	best := make([]division, all+1)
	for set := parties(1); set <= all; set++ {
		if set.sum(l) != 0 {
			continue
		}
		for group := range set.withFirst() {
			others := set &^ group
			if group.sum(l) != 0 {
				continue
			}
			if d := best[others].before(others); d.isBetter(best[set]) {
				best[set] = d
			}
		}
	}
	return slices.Clone(best[all].numbers[:len(l)])
}

// pay returns the payments of all groups; numbers has that of the group of each party.
func pay(l, numbers []int) []Pay {
	members := make([][]int, len(l))
	for i, group := range numbers {
		members[group] = append(members[group], i)
	}
	var pays []Pay
	left := slices.Clone(l)
	for _, group := range members {
		pays = append(pays, payGroup(left, group)...)
	}
	return pays
}

// payGroup returns the payments of a group, and takes them off what is left.
func payGroup(left, group []int) []Pay {
	var pays []Pay
	for {
		from := slices.IndexFunc(group, func(i int) bool { return left[i] < 0 })
		if from < 0 {
			return pays
		}
		to := slices.IndexFunc(group, func(i int) bool { return left[i] > 0 })
		p := Pay{From: group[from], To: group[to]}
		p.Amount = min(-left[p.From], left[p.To])
		left[p.From] += p.Amount
		left[p.To] -= p.Amount
		pays = append(pays, p)
	}
}
