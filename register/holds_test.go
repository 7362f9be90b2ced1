package register_test

import (
	"math/rand"
	"slices"
	"testing"

	"foldhouse/api"
	"foldhouse/register"
)

// expectBound checks that errors are at most the bound of a loop, from a copy on.
func expectBound(t *testing.T, l register.Loop, moments []register.Moment, from int) {
	t.Helper()
	bound, _ := register.Bound(l)
	for i := from; i < len(moments); i++ {
		if abs(moments[i].Error) > bound {
			t.Fatal(l, i, moments[0], moments[i], bound)
		}
	}
}

// P5.5: from an error of at most Step - Blur on, the error is at most the bound after Dead + 1 copies.
func TestHolds(t *testing.T) {
	rnd := rand.New(rand.NewSource(7))
	for range 2000 {
		l := anyLoop(rnd)
		n := l.Dead + 2 + rnd.Intn(100)
		e := anyNumbers(rnd, 1, l.Step-l.Blur)[0]
		expectBound(t, l, play(t, l, e, anyNumbers(rnd, n, l.Noise), anyNumbers(rnd, n, l.Blur)), l.Dead+1)
	}
}

// P5.5: the same of small loops, with all noise and all blur that there can be.
func TestHoldsAll(t *testing.T) {
	for _, l := range []register.Loop{
		{Step: 1}, {Noise: 1, Step: 1}, {Blur: 1, Step: 2}, {Noise: 1, Blur: 1, Step: 3}, {Noise: 1, Blur: 1, Step: 4},
		{Dead: 1, Noise: 1, Blur: 1, Step: 3}, {Dead: 2, Noise: 1, Step: 1}, {Dead: 1, Blur: 1, Step: 2}, {Dead: 2, Noise: 1, Blur: 1, Step: 3},
	} {
		for noise := range lists(l.Dead+3, l.Noise) {
			for blur := range lists(l.Dead+3, l.Blur) {
				for e := l.Blur - l.Step; e <= l.Step-l.Blur; e++ {
					expectBound(t, l, play(t, l, e, noise, blur), l.Dead+1)
				}
			}
		}
	}
}

// lists yields all lists of so many numbers from -limit to limit.
func lists(n, limit int) func(yield func([]int) bool) {
	return func(yield func([]int) bool) {
		l := slices.Repeat([]int{-limit}, n)
		for {
			if !yield(l) {
				return
			}
			i := slices.IndexFunc(l, func(number int) bool { return number < limit })
			if i < 0 {
				return
			}
			for j := range i {
				l[j] = -limit
			}
			l[i]++
		}
	}
}

// P5.5: from any error on, the error is at most the bound after the settling time.
func TestSettles(t *testing.T) {
	rnd := rand.New(rand.NewSource(8))
	settled := 0
	for range 2000 {
		l := anyLoop(rnd)
		e := anyNumbers(rnd, 1, 20*l.Step)[0]
		time, code := register.Settle(l, e)
		if code != api.OK || time > 4900 {
			continue
		}
		settled++
		n := time + 1 + rnd.Intn(60)
		expectBound(t, l, play(t, l, e, anyNumbers(rnd, n, l.Noise), anyNumbers(rnd, n, l.Blur)), time)
	}
	if settled < 500 {
		t.Error(settled)
	}
}

// P5.5: the noise of Beat drives the error as far as it says, whatever corrections come.
func TestBeatDrives(t *testing.T) {
	rnd := rand.New(rand.NewSource(9))
	for range 2000 {
		l := anyLoop(rnd)
		reach := (l.Dead + 1) * l.Noise
		e := anyNumbers(rnd, 1, 3*reach+10)[0]
		moves := anyNumbers(rnd, l.Dead+1, l.Step)
		noise, code := register.Beat(l, e, moves)
		if code != api.OK || len(noise) != l.Dead+1 {
			t.Fatal(l, e, moves, noise, code)
		}
		// The correction of a copy acts Dead copies later: those of the copies to come do not act in time.
		for i, move := range append(moves, anyNumbers(rnd, l.Dead, register.MaxError)...)[:l.Dead+1] {
			if abs(noise[i]) != l.Noise {
				t.Fatal(l, noise)
			}
			e += move + noise[i]
		}
		if abs(e) < reach {
			t.Error(l, e, moves, noise)
		}
	}
}

// P5.5: the rule itself is driven so far by Beat, again and again, and no farther than the bound.
func TestBeatAgainstRule(t *testing.T) {
	for _, l := range []register.Loop{example(), stiff(), {Dead: 20, Noise: 7, Step: 7}, {Dead: 3, Noise: 2, Blur: 5, Step: 40}} {
		var noise []int
		for range 30 {
			blur := make([]int, len(noise)+1)
			moments := play(t, l, 0, append(noise, 0), blur)
			last := len(moments) - 1
			moves := make([]int, l.Dead+1)
			for i := range moves {
				if at := last - l.Dead + i; at >= 0 {
					moves[i] = moments[at].Move
				}
			}
			more, code := register.Beat(l, moments[last].Error, moves)
			if code != api.OK {
				t.Fatal(l, code)
			}
			noise = append(noise, more...)
			moments = play(t, l, 0, append(noise, 0), make([]int, len(noise)+1))
			if e := moments[len(noise)].Error; abs(e) < (l.Dead+1)*l.Noise {
				t.Fatal(l, e, noise)
			}
			expectBound(t, l, moments, 0)
		}
	}
}

// colour is what happens to a colour of a desk.
type colour struct {
	loop        register.Loop
	e           int
	noise, blur []int
}

// P5.5: a desk that finds all marks does with each colour what its loop does, and keeps it within the bound.
func TestDeskHolds(t *testing.T) {
	const copies, window = 60, 1000
	rnd := rand.New(rand.NewSource(10))
	for range 60 {
		pattern := numbers(2+rnd.Intn(11), rnd.Intn(1000), 4001+rnd.Intn(1000))
		var colours []colour
		var loops []register.Loop
		for range pattern[1:] {
			l := register.Loop{Dead: rnd.Intn(21), Noise: rnd.Intn(11), Blur: 2 * rnd.Intn(5)}
			l.Step = l.Noise + 2*l.Blur + 1 + rnd.Intn(20)
			e := anyNumbers(rnd, 1, l.Step-l.Blur)[0]
			colours = append(colours, colour{l, e, anyNumbers(rnd, copies, l.Noise), anyNumbers(rnd, copies, l.Blur)})
			loops = append(loops, l)
		}
		run(t, rnd, newDesk(t, pattern, loops, window, 1000000), pattern, colours)
	}
}

// run lets a desk read copies, and compares each colour with its loop.
func run(t *testing.T, rnd *rand.Rand, d *register.Desk, pattern []int, colours []colour) {
	t.Helper()
	var played [][]register.Moment
	for _, c := range colours {
		played = append(played, play(t, c.loop, c.e, c.noise, c.blur))
		expectBound(t, c.loop, played[len(played)-1], c.loop.Dead+1)
	}
	for n := range colours[0].noise {
		key := pattern[0] + rnd.Intn(4001) - 2000
		seen := []int{key}
		for i, c := range colours {
			seen = append(seen, key+pattern[i+1]-pattern[0]+played[i][n].Error+c.blur[n])
		}
		read, code := d.Read(seen)
		if code != api.OK || !read.Good {
			t.Fatal(n, seen, read, code)
		}
		for i, c := range colours {
			m := played[i][n]
			if abs(read.Errors[i]-m.Error) > c.loop.Blur || read.Moves[i] != m.Move {
				t.Fatal(n, i, read, m)
			}
		}
	}
}
