package van_test

import (
	"math"
	"math/rand"
	"slices"
	"testing"

	"foldhouse/api"
	"foldhouse/van"
)

// triangle is the round of the chapter's example 4, as it begins.
func triangle() van.Round { return round(3, street(0, 1, 5), street(1, 2, 6), street(2, 0, 7)) }

// anyRound returns a round of so many corners at most whose streets are joined, and of which at most 10 corners are odd.
func anyRound(rnd *rand.Rand, corners, streets int) van.Round {
	for {
		r := round(corners)
		met := rnd.Perm(corners)
		if rnd.Intn(3) == 0 {
			met = met[:2+rnd.Intn(corners-1)]
		}
		for i := range met[1:] {
			r.Streets = append(r.Streets, anyStreet(rnd, met[i+1], met[rnd.Intn(i+1)]))
		}
		for len(r.Streets) < streets && rnd.Intn(8) > 0 {
			l := rnd.Perm(len(met))
			r.Streets = append(r.Streets, anyStreet(rnd, met[l[0]], met[l[1]]))
		}
		rnd.Shuffle(len(r.Streets), func(i, j int) { r.Streets[i], r.Streets[j] = r.Streets[j], r.Streets[i] })
		if len(oddOf(r)) <= van.MaxOdd && len(r.Streets) <= streets {
			return r
		}
	}
}

func anyStreet(rnd *rand.Rand, a, b int) van.Street {
	if rnd.Intn(2) == 0 {
		a, b = b, a
	}
	lengths := []int{1, 1, 2, 3, 1 + rnd.Intn(20), 1 + rnd.Intn(10000), 10000}
	return street(a, b, lengths[rnd.Intn(len(lengths))])
}

// oddOf returns the corners with an odd number of streets.
func oddOf(r van.Round) []int {
	var l []int
	for corner := range r.Corners {
		n := 0
		for _, s := range r.Streets {
			if s.A == corner || s.B == corner {
				n++
			}
		}
		if n%2 == 1 {
			l = append(l, corner)
		}
	}
	return l
}

func sum(r van.Round) int {
	sum := 0
	for _, s := range r.Streets {
		sum += s.Length
	}
	return sum
}

// again returns the least length of streets that make all corners even if they are walked twice: street by street, for each set of corners that it has made odd.
func again(r van.Round) int {
	const far = math.MaxInt / 2
	least := slices.Repeat([]int{far}, 1<<r.Corners)
	least[0] = 0
	for _, s := range r.Streets {
		next := slices.Clone(least)
		for bits, n := range least {
			other := bits ^ 1<<s.A ^ 1<<s.B
			next[other] = min(next[other], n+s.Length)
		}
		least = next
	}
	bits := 0
	for _, corner := range oddOf(r) {
		bits |= 1 << corner
	}
	return least[bits]
}

// closed returns the least length of a walk that serves a round from a corner, by a search of all walks: for each corner and set of streets, until nothing gets shorter.
func closed(r van.Round, from int) int {
	const far = math.MaxInt / 2
	n := len(r.Streets)
	least := make([][]int, r.Corners)
	for i := range least {
		least[i] = slices.Repeat([]int{far}, 1<<n)
	}
	least[from][0] = 0
	for changed := true; changed; {
		changed = false
		for walked := range 1 << n {
			for i, s := range r.Streets {
				for _, ends := range [][2]int{{s.A, s.B}, {s.B, s.A}} {
					length, with := least[ends[0]][walked]+s.Length, walked|1<<i
					if length < least[ends[1]][with] {
						least[ends[1]][with] = length
						changed = true
					}
				}
			}
		}
	}
	return least[from][1<<n-1]
}

// serves follows a walk, by the words of the chapter: its length, or -1 if it does not serve the round.
func serves(r van.Round, from int, walk []van.Step) int {
	at, length := from, 0
	for _, step := range walk {
		if step.Street < 0 || step.Street >= len(r.Streets) {
			return -1
		}
		s := r.Streets[step.Street]
		if step.Back {
			s.A, s.B = s.B, s.A
		}
		if s.A != at {
			return -1
		}
		at, length = s.B, length+s.Length
	}
	for i := range r.Streets {
		if !slices.ContainsFunc(walk, func(s van.Step) bool { return s.Street == i }) {
			return -1
		}
	}
	if at != from {
		return -1
	}
	return length
}

func expectTwice(t *testing.T, r van.Round, length int, want ...int) {
	t.Helper()
	if l, n, e := van.Twice(r); e != api.OK || n != length || !slices.Equal(l, want) {
		t.Error(r, l, n, e)
	}
}

func expectServes(t *testing.T, r van.Round, from int, walk []van.Step, want int, code api.Errno) {
	t.Helper()
	if n, e := van.Serves(r, from, walk); n != want || e != code {
		t.Error(r, from, walk, n, e)
	}
}

// expectWalk checks that a walk has a length, serves the round, and has no street more than twice.
func expectWalk(t *testing.T, r van.Round, from, want int) []van.Step {
	t.Helper()
	walk, n, e := van.Walk(r, from)
	if e != api.OK || n != want || serves(r, from, walk) != want {
		t.Fatal(r, from, walk, n, e)
	}
	expectServes(t, r, from, walk, want, api.OK)
	times := make([]int, len(r.Streets))
	for _, step := range walk {
		times[step.Street]++
	}
	for _, n := range times {
		if n < 1 || n > 2 {
			t.Fatal(r, from, walk)
		}
	}
	return walk
}

func expectNoWalk(t *testing.T, r van.Round, from int) {
	t.Helper()
	if walk, n, e := van.Walk(r, from); e != api.ErrArg || walk != nil || n != 0 {
		t.Error(r, from, walk, n, e)
	}
	expectServes(t, r, from, nil, 0, api.ErrArg)
	expectServes(t, r, from, make([]van.Step, 1001), 0, api.ErrArg)
}

// Example 4 of the chapter.
func TestExampleFour(t *testing.T) {
	for from := range 3 {
		expectWalk(t, triangle(), from, 18)
	}
	expectTwice(t, triangle(), 0, 0, 0, 0)
	r := triangle()
	r.Streets = append(r.Streets, street(0, 1, 9))
	for from := range 3 {
		expectWalk(t, r, from, 32)
	}
	expectTwice(t, r, 5, 1, 0, 0, 0)
}

// P10.3: rounds with one least walk, and which streets it has twice.
func TestWalk(t *testing.T) {
	for corners := 1; corners <= 12; corners++ {
		for from := range corners {
			if walk := expectWalk(t, round(corners), from, 0); len(walk) != 0 {
				t.Error(walk)
			}
			if corners > 1 {
				expectWalk(t, path(corners), from, 2*(corners-1))
			}
		}
		expectTwice(t, round(corners), 0)
		expectTwice(t, path(corners), corners-1, slices.Repeat([]int{1}, corners-1)...)
	}
	// The way over two streets is shorter than the street.
	over := round(3, street(0, 1, 10), street(1, 2, 4), street(2, 0, 5), street(1, 0, 10))
	expectTwice(t, over, 9, 0, 1, 1, 0)
	expectWalk(t, over, 2, 38)
	over.Streets[0].Length = 8
	expectTwice(t, over, 8, 1, 0, 0, 0)
	over.Streets[3].Length = 7
	expectTwice(t, over, 7, 0, 0, 0, 1)
	// Corners next to each other are joined, not those that are met first.
	expectTwice(t, round(4, street(0, 1, 2), street(0, 1, 2), street(0, 1, 1), street(1, 2, 9), street(1, 2, 9), street(2, 3, 3), street(2, 3, 4), street(3, 2, 5)), 4, 0, 0, 1, 0, 0, 1, 0, 0)
	expectTwice(t, round(12, street(11, 10, 10000)), 10000, 1)
	expectWalk(t, round(12, street(11, 10, 10000)), 10, 20000)
}

// P10.3: corners from which there is no walk.
func TestNoWalk(t *testing.T) {
	for _, from := range []int{-1, 3, math.MaxInt, math.MinInt} {
		expectNoWalk(t, triangle(), from)
		expectNoWalk(t, round(3), from)
	}
	r := round(5, street(1, 3, 4), street(3, 4, 2))
	for _, from := range []int{0, 2, 5} {
		expectNoWalk(t, r, from)
	}
	for _, from := range []int{1, 3, 4} {
		expectWalk(t, r, from, 12)
	}
}

// P10.3: walks that serve a round, and walks that do not.
func TestServes(t *testing.T) {
	on := func(l ...int) []van.Step {
		var walk []van.Step
		for _, street := range l {
			walk = append(walk, van.Step{Street: street})
		}
		return walk
	}
	back := func(l ...int) []van.Step {
		walk := on(l...)
		for i := range walk {
			walk[i].Back = true
		}
		return walk
	}
	expectServes(t, triangle(), 0, on(0, 1, 2), 18, api.OK)
	expectServes(t, triangle(), 1, on(1, 2, 0), 18, api.OK)
	expectServes(t, triangle(), 0, back(2, 1, 0), 18, api.OK)
	expectServes(t, triangle(), 0, on(0, 1, 2, 0, 1, 2), 36, api.OK)
	expectServes(t, triangle(), 0, append(on(0, 1), back(1, 0, 2, 1, 0)...), 40, api.OK)
	for _, walk := range [][]van.Step{nil, {}, on(0, 1), on(0), on(1, 2, 0), back(0, 1, 2), on(0, 1, 2, 0), on(0, 1, 2, 3), on(-1), on(3), on(math.MaxInt), on(math.MinInt), append(on(0), back(0)...), append(on(0, 1), back(2)...), on(0, 2, 1)} {
		expectServes(t, triangle(), 0, walk, 0, api.ErrFalse)
	}
	expectServes(t, round(4), 3, nil, 0, api.OK)
	expectServes(t, round(4), 3, []van.Step{}, 0, api.OK)
	expectServes(t, round(4), 3, on(0), 0, api.ErrFalse)
	long := round(2, street(1, 0, 10000))
	walk := slices.Repeat([]van.Step{{Back: true}, {}}, 500)
	expectServes(t, long, 0, walk, 10000000, api.OK)
	expectServes(t, long, 1, walk, 0, api.ErrFalse)
	expectServes(t, long, 0, walk[:999], 0, api.ErrFalse)
	expectServes(t, long, 0, append(walk, van.Step{}), 0, api.ErrMany)
	expectServes(t, long, 0, make([]van.Step, 1001), 0, api.ErrMany)
	expectServes(t, long, 0, make([]van.Step, 1000), 0, api.ErrFalse)
}

// P10.3: walks of small rounds, with a search of all walks.
func TestSmallRounds(t *testing.T) {
	rnd := rand.New(rand.NewSource(18))
	for range 400 {
		r := anyRound(rnd, 2+rnd.Intn(5), 8)
		from := r.Streets[0].A
		if n := closed(r, from); n != sum(r)+again(r) {
			t.Fatal(r, n)
		}
		expectWalk(t, r, from, closed(r, from))
	}
}

// degree returns how many ends of streets a corner has, if each street is there so many times.
func degree(r van.Round, corner int, times []int) int {
	n := 0
	for i, s := range r.Streets {
		if s.A == corner || s.B == corner {
			n += times[i]
		}
	}
	return n
}

// P10.3, P10.4: the streets that are walked twice, and the walks of all rounds.
func TestAnyRound(t *testing.T) {
	rnd := rand.New(rand.NewSource(19))
	var counts [11]int
	for range 3000 {
		r := anyRound(rnd, 2+rnd.Intn(11), 40)
		times, n, e := van.Twice(r)
		if e != api.OK || n != again(r) || len(times) != len(r.Streets) {
			t.Fatal(r, times, n, e)
		}
		length := 0
		for i, twice := range times {
			if twice < 0 || twice > 1 {
				t.Fatal(r, times)
			}
			length += twice * r.Streets[i].Length
		}
		if length != n {
			t.Fatal(r, times, n)
		}
		odd := oddOf(r)
		for corner := range r.Corners {
			if slices.Contains(odd, corner) != (degree(r, corner, times)%2 == 1) {
				t.Fatal(r, times, corner)
			}
		}
		counts[len(odd)]++
		from := r.Streets[rnd.Intn(len(r.Streets))].B
		expectChanged(t, rnd, r, from, expectWalk(t, r, from, sum(r)+n))
	}
	for odd := 0; odd <= 10; odd += 2 {
		if counts[odd] < 20 {
			t.Error("not enough", counts)
		}
	}
}

// expectChanged checks what Serves says of a walk that was changed a little.
func expectChanged(t *testing.T, rnd *rand.Rand, r van.Round, from int, walk []van.Step) {
	t.Helper()
	for range 5 {
		other, at := slices.Clone(walk), rnd.Intn(len(walk))
		switch rnd.Intn(4) {
		case 0:
			other = slices.Delete(other, at, at+1)
		case 1:
			other[at].Back = !other[at].Back
		case 2:
			other[at].Street = rnd.Intn(len(r.Streets))
		case 3:
			step := other[at]
			other = slices.Insert(other, at, step, van.Step{Street: step.Street, Back: !step.Back})
		}
		if n := serves(r, from, other); n < 0 {
			expectServes(t, r, from, other, 0, api.ErrFalse)
		} else {
			expectServes(t, r, from, other, n, api.OK)
		}
	}
}

// P10.4: a round without odd corners is walked with no street twice.
func TestEvenRounds(t *testing.T) {
	rnd := rand.New(rand.NewSource(20))
	for range 200 {
		r := anyRound(rnd, 2+rnd.Intn(11), 20)
		r.Streets = append(r.Streets, r.Streets...)
		from := r.Streets[0].A
		if walk := expectWalk(t, r, from, sum(r)); len(walk) != len(r.Streets) {
			t.Fatal(r, walk)
		}
		expectTwice(t, r, 0, make([]int, len(r.Streets))...)
	}
}
