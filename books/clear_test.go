package books_test

import (
	"math"
	"math/rand"
	"slices"
	"testing"

	"foldhouse/api"
	"foldhouse/books"
)

func expectGroups(t *testing.T, l []int, want ...int) {
	t.Helper()
	if groups, e := books.Groups(l); !slices.Equal(groups, want) || e != api.OK {
		t.Error(l, groups, e, want)
	}
}

func expectClear(t *testing.T, l []int, want ...books.Pay) {
	t.Helper()
	if pays, e := books.Clear(l); !slices.Equal(pays, want) || e != api.OK {
		t.Error(l, pays, e, want)
	}
}

// P13.4: groups and payments that are worked out by hand.
func TestClear(t *testing.T) {
	for _, c := range []struct {
		l, groups []int
		pays      []books.Pay
	}{
		{nil, nil, nil},
		{[]int{0}, []int{0}, nil},
		{[]int{0, 0, 0}, []int{0, 1, 2}, nil},
		{[]int{5, -5}, []int{0, 0}, []books.Pay{pay(1, 0, 5)}},
		{[]int{-5, 3, 2, -4, 4}, []int{0, 0, 0, 1, 1}, []books.Pay{pay(0, 1, 3), pay(0, 2, 2), pay(3, 4, 4)}},
		{[]int{-5, 0, 5, 0}, []int{0, 1, 0, 2}, []books.Pay{pay(0, 2, 5)}},
		{[]int{1, 1, -1, -1}, []int{0, 1, 0, 1}, []books.Pay{pay(2, 0, 1), pay(3, 1, 1)}},
		{[]int{7, -2, -5, -3, 3}, []int{0, 0, 0, 1, 1}, []books.Pay{pay(1, 0, 2), pay(2, 0, 5), pay(3, 4, 3)}},
		{[]int{-1, -2, -4, 3, 4}, []int{0, 0, 1, 0, 1}, []books.Pay{pay(0, 3, 1), pay(1, 3, 2), pay(2, 4, 4)}},
		{[]int{-6, 3, -2, 4, 1}, []int{0, 0, 0, 0, 0}, []books.Pay{pay(0, 1, 3), pay(0, 3, 3), pay(2, 3, 1), pay(2, 4, 1)}},
		{[]int{4, 3, 2, 1, -5, -5}, []int{0, 1, 1, 0, 0, 1}, []books.Pay{pay(4, 0, 4), pay(4, 3, 1), pay(5, 1, 3), pay(5, 2, 2)}},
		{[]int{1000000000, -1000000000}, []int{0, 0}, []books.Pay{pay(1, 0, 1000000000)}},
	} {
		expectGroups(t, c.l, c.groups...)
		expectClear(t, c.l, c.pays...)
	}
}

// P13.4: of several divisions the first list.
func TestFirstGroups(t *testing.T) {
	expectGroups(t, []int{-2, -2, -2, 1, 1, 1, 1, 1, 1}, 0, 1, 2, 0, 0, 1, 1, 2, 2)
	expectGroups(t, []int{-3, 1, 2, -3, 2, 1}, 0, 0, 0, 1, 1, 1)
	expectGroups(t, []int{3, -4, 1, -2, 2, 0, 1, -1}, 0, 0, 0, 1, 1, 2, 3, 3)
	expectGroups(t, []int{2, 3, -4, 4, -2, -3}, 0, 1, 2, 2, 0, 1)
	// Groups of the first party with earlier ones (0, 3, 4, and 0, 5, 6, and 0, 4, 5) are in lists that are greater.
	expectGroups(t, []int{4, 1, 1, -2, -2, -1, -4, 3}, 0, 1, 1, 1, 2, 2, 0, 2)
	expectGroups(t, []int{4, 1, 1, -1, 3, -2, -2, -4}, 0, 1, 1, 2, 2, 1, 2, 0)
	expectGroups(t, []int{-4, -3, 1, 3, 2, 2, 4, -5}, 0, 1, 1, 2, 1, 2, 0, 2)
}

// P13.4: errors of Groups and Clear, in their order.
func TestErrorsOfGroups(t *testing.T) {
	for i, c := range []struct {
		l    []int
		want api.Errno
	}{
		{make([]int, 11), api.ErrMany},
		{slices.Repeat([]int{math.MaxInt}, 11), api.ErrMany},
		{make([]int, 500), api.ErrMany},
		{[]int{1000000001, -1000000001}, api.ErrRange},
		{[]int{1000000001}, api.ErrRange},
		{[]int{0, -1000000001}, api.ErrRange},
		{[]int{math.MinInt, math.MinInt}, api.ErrRange},
		{[]int{math.MaxInt, -math.MaxInt}, api.ErrRange},
		{[]int{5, math.MaxInt}, api.ErrRange},
		{[]int{1}, api.ErrState},
		{[]int{-1000000000}, api.ErrState},
		{[]int{3, -2}, api.ErrState},
		{slices.Repeat([]int{1000000000}, 10), api.ErrState},
		{make([]int, 10), api.OK},
	} {
		groups, e1 := books.Groups(c.l)
		pays, e2 := books.Clear(c.l)
		if e1 != c.want || e2 != c.want || pays != nil || (groups == nil) != (c.want != api.OK) {
			t.Error(i, groups, e1, pays, e2, c.want)
		}
	}
	if books.MaxParties != 10 {
		t.Error(books.MaxParties)
	}
}

// groupsOf returns the groups by the words of the chapter: of all divisions, in lexicographic order, the first one with the most groups.
func groupsOf(l []int) []int {
	var best []int
	most := -1
	numbers, sums := make([]int, len(l)), make([]int, len(l)+1)
	var place func(i, groups int)
	place = func(i, groups int) {
		if i == len(l) {
			if groups > most && !slices.ContainsFunc(sums, func(n int) bool { return n != 0 }) {
				best, most = slices.Clone(numbers), groups
			}
			return
		}
		for group := range groups + 1 {
			numbers[i] = group
			sums[group] += l[i]
			place(i+1, max(groups, group+1))
			sums[group] -= l[i]
		}
	}
	place(0, 0)
	return best
}

// paysOf returns the payments of groups by the words of the chapter.
func paysOf(l, groups []int) []books.Pay {
	var pays []books.Pay
	left := slices.Clone(l)
	for group := range l {
		for {
			from, to := -1, -1
			for i := len(l) - 1; i >= 0; i-- {
				if groups[i] == group && left[i] < 0 {
					from = i
				}
				if groups[i] == group && left[i] > 0 {
					to = i
				}
			}
			if from == -1 {
				break
			}
			n := min(-left[from], left[to])
			left[from] += n
			left[to] -= n
			pays = append(pays, pay(from, to, n))
		}
	}
	return pays
}

// anyBalances returns balances that add up to 0.
func anyBalances(rnd *rand.Rand, n, most int) []int {
	for {
		l := make([]int, n)
		sum := 0
		for i := range n - 1 {
			l[i] = rnd.Intn(2*most+1) - most
			sum += l[i]
		}
		l[n-1] = -sum
		if -most <= sum && sum <= most {
			rnd.Shuffle(n, func(i, j int) { l[i], l[j] = l[j], l[i] })
			return l
		}
	}
}

func expectAll(t *testing.T, l []int) {
	t.Helper()
	groups := groupsOf(l)
	expectGroups(t, l, groups...)
	expectClear(t, l, paysOf(l, groups)...)
	expectCleared(t, l)
}

// P13.5: payments clear all balances.
func expectCleared(t *testing.T, l []int) {
	t.Helper()
	left := slices.Clone(l)
	pays, _ := books.Clear(l)
	for _, p := range pays {
		if p.Amount <= 0 || l[p.From] >= 0 || l[p.To] <= 0 {
			t.Error(l, pays)
		}
		left[p.From] += p.Amount
		left[p.To] -= p.Amount
	}
	if slices.ContainsFunc(left, func(n int) bool { return n != 0 }) {
		t.Error(l, pays, left)
	}
}

// P13.4: groups and payments are those of the chapter's words.
func TestAnyGroups(t *testing.T) {
	rnd := rand.New(rand.NewSource(7))
	for range 3000 {
		expectAll(t, anyBalances(rnd, 1+rnd.Intn(7), anyOf(rnd, []int{1, 2, 3, 5, 9, 1000000000})))
	}
	for range 40 {
		expectAll(t, anyBalances(rnd, 8+rnd.Intn(3), anyOf(rnd, []int{1, 2, 4, 7, 12, 30, 1000000000})))
	}
	for _, l := range [][]int{make([]int, 10), {1, -1, 1, -1, 1, -1, 1, -1, 1, -1}, {9, -1, -1, -1, -1, -1, -1, -1, -1, -1}, {-2, -2, -2, 1, 1, 1, 1, 1, 1, 0}, {1, 2, 3, 4, 5, -5, -4, -3, -2, -1}, {1, 2, 4, 8, 16, -16, -8, -4, -2, -1}, {3, 3, 3, -2, -2, -2, -2, -2, 0, 1}} {
		expectAll(t, l)
	}
}

// P13.4: all balances of a few parties.
func TestAllGroups(t *testing.T) {
	l := make([]int, 5)
	var place func(i, sum int)
	place = func(i, sum int) {
		if i == len(l)-1 {
			l[i] = -sum
			expectAll(t, l)
			return
		}
		for n := -3; n <= 3; n++ {
			l[i] = n
			place(i+1, sum+n)
		}
	}
	place(0, 0)
}

// fewest returns the number of payments that clear balances, by trying all payments, whoever pays whom.
func fewest(l [4]int) int {
	seen := map[[4]int]bool{l: true}
	now := [][4]int{l}
	for pays := 0; ; pays++ {
		var next [][4]int
		for _, x := range now {
			if x == [4]int{} {
				return pays
			}
			next = append(next, payments(x, seen)...)
		}
		now = next
	}
}

// payments returns what may be left after a payment, if it was not seen.
func payments(x [4]int, seen map[[4]int]bool) [][4]int {
	var l [][4]int
	for from := range x {
		for to := range x {
			for n := 1; n <= 6 && from != to; n++ {
				y := x
				y[from] += n
				y[to] -= n
				if !seen[y] {
					seen[y] = true
					l = append(l, y)
				}
			}
		}
	}
	return l
}

// P13.5: no fewer payments clear balances.
func TestFewestPayments(t *testing.T) {
	rnd := rand.New(rand.NewSource(8))
	met := map[int]int{}
	for range 60 {
		l := anyBalances(rnd, 4, 3)
		pays, _ := books.Clear(l)
		if n := fewest([4]int(l)); len(pays) != n {
			t.Error(l, pays, n)
		}
		met[len(pays)]++
	}
	if met[1] < 2 || met[2] < 5 || met[3] < 5 {
		t.Error("not enough", met)
	}
}

// P13.5: no fewer payments clear balances: who pays whom joins parties whose balances add up to 0.
func TestFewestJoins(t *testing.T) {
	rnd := rand.New(rand.NewSource(9))
	for range 150 {
		l := anyBalances(rnd, 5, 1+rnd.Intn(6))
		pays, _ := books.Clear(l)
		least := len(l)
		for joins := range 1 << 10 {
			if n := count(joins); n < least && clears(l, joins) {
				least = n
			}
		}
		if len(pays) != least {
			t.Error(l, pays, least)
		}
	}
}

func count(joins int) int {
	n := 0
	for ; joins > 0; joins /= 2 {
		n += joins % 2
	}
	return n
}

// clears reports whether the parties that are joined, of five, have balances that add up to 0; each bit joins a pair.
func clears(l []int, joins int) bool {
	root := []int{0, 1, 2, 3, 4}
	bit := 0
	for i := range 5 {
		for k := range i {
			if joins>>bit&1 == 1 {
				was := root[k]
				for j := range root {
					if root[j] == was {
						root[j] = root[i]
					}
				}
			}
			bit++
		}
	}
	sums := make([]int, 5)
	for i, r := range root {
		sums[r] += l[i]
	}
	return slices.Equal(sums, make([]int, 5))
}
