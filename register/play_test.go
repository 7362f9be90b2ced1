package register_test

import (
	"math"
	"math/rand"
	"slices"
	"testing"

	"foldhouse/api"
	"foldhouse/register"
)

// moment is a moment with its error and its correction.
func moment(e, move int) register.Moment { return register.Moment{Error: e, Move: move} }

// play returns what happens, and fails if there is an error.
func play(t *testing.T, l register.Loop, e int, noise, blur []int) []register.Moment {
	t.Helper()
	moments, code := register.Play(l, e, noise, blur)
	if code != api.OK || len(moments) != len(noise) {
		t.Fatal(l, e, len(moments), code)
	}
	return moments
}

// expectPlay checks what happens.
func expectPlay(t *testing.T, l register.Loop, e int, noise, blur []int, want ...register.Moment) {
	t.Helper()
	if got := play(t, l, e, noise, blur); !slices.Equal(got, want) {
		t.Error(l, e, got)
	}
}

// anyNumbers returns numbers from -limit to limit, which are often the greatest or the least one.
func anyNumbers(rnd *rand.Rand, n, limit int) []int {
	var l []int
	kind := rnd.Intn(4)
	for range n {
		number := []int{limit, -limit, limit * (2*rnd.Intn(2) - 1), rnd.Intn(2*limit+1) - limit}[kind]
		l = append(l, number)
	}
	return l
}

// P5.2: the chapter's examples 1 and 2.
func TestPlayExamples(t *testing.T) {
	expectPlay(t, example(), 0, []int{3, 3, 3, 3}, []int{-1, 0, 0, 0}, moment(0, 1), moment(3, -4), moment(6, -3), moment(10, -3))
	expectPlay(t, stiff(), 4, []int{5, -5, 0}, []int{0, 0, 0}, moment(4, -4), moment(5, -5), moment(-5, 5))
}

// P5.2: corrections act after the dead time, and are counted until then.
func TestPlayDead(t *testing.T) {
	l := register.Loop{Dead: 2, Step: 10}
	expectPlay(t, l, 7, make([]int, 5), make([]int, 5), moment(7, -7), moment(7, 0), moment(7, 0), moment(0, 0), moment(0, 0))
	l.Dead = 0
	expectPlay(t, l, 7, make([]int, 3), make([]int, 3), moment(7, -7), moment(0, 0), moment(0, 0))
	l.Dead = 1
	expectPlay(t, l, -25, make([]int, 5), make([]int, 5), moment(-25, 10), moment(-25, 10), moment(-15, 5), moment(-5, 0), moment(0, 0))
}

// P5.2: a correction is at most Step, either way.
func TestPlayStep(t *testing.T) {
	l := register.Loop{Blur: 2, Step: 10}
	for e, want := range map[int]int{9: -9, 10: -10, 11: -10, -9: 9, -10: 10, -11: 10, 1000000: -10, -1000000: 10} {
		expectPlay(t, l, e, []int{0}, []int{0}, moment(e, want))
	}
	expectPlay(t, l, 9, []int{0, 0}, []int{2, -2}, moment(9, -10), moment(-1, 3))
}

// P5.2: there are as many copies as numbers, and the last number of noise has no effect.
func TestPlayLength(t *testing.T) {
	expectPlay(t, example(), 5, nil, []int{})
	expectPlay(t, example(), 5, []int{-3}, []int{1}, moment(5, -6))
	expectPlay(t, example(), 5, []int{3}, []int{1}, moment(5, -6))
	play(t, example(), 1000000, make([]int, 5000), make([]int, 5000))
}

// P5.2: what Play refuses, and in which order.
func TestPlayErrors(t *testing.T) {
	refuse := func(l register.Loop, e int, noise, blur []int, want api.Errno) {
		t.Helper()
		if moments, code := register.Play(l, e, noise, blur); moments != nil || code != want {
			t.Error(l, e, len(moments), code)
		}
	}
	many := slices.Repeat([]int{9}, 5001)
	for _, l := range wrongLoops() {
		refuse(l, 0, nil, nil, api.ErrRegister)
		refuse(l, math.MinInt, many, nil, api.ErrRegister)
	}
	refuse(example(), 0, many, many, api.ErrArg)
	refuse(example(), 0, []int{0}, nil, api.ErrArg)
	refuse(example(), 0, nil, []int{0}, api.ErrArg)
	refuse(example(), math.MaxInt, []int{4, 0}, []int{2}, api.ErrArg)
	for _, e := range []int{1000001, -1000001, math.MaxInt, math.MinInt} {
		refuse(example(), e, nil, nil, api.ErrRange)
		refuse(example(), e, []int{0}, []int{0}, api.ErrRange)
	}
	for _, n := range []int{4, -4, math.MaxInt, math.MinInt} {
		refuse(example(), 0, []int{0, 3, n}, []int{0, 0, 0}, api.ErrRange)
		refuse(example(), 0, []int{n, 3, 3}, []int{0, 0, 0}, api.ErrRange)
	}
	for _, n := range []int{2, -2, math.MaxInt, math.MinInt} {
		refuse(example(), 0, []int{0, 3, -3}, []int{0, 1, n}, api.ErrRange)
		refuse(example(), 0, []int{0, 3, -3}, []int{n, -1, 0}, api.ErrRange)
	}
}

// P5.2: what happens follows from the words of the chapter.
func TestPlayWords(t *testing.T) {
	rnd := rand.New(rand.NewSource(2))
	for range 300 {
		l := anyLoop(rnd)
		n := 1 + rnd.Intn(80)
		noise, blur := anyNumbers(rnd, n, l.Noise), anyNumbers(rnd, n, l.Blur)
		e := anyNumbers(rnd, 1, 5*l.Step)[0]
		moments := play(t, l, e, noise, blur)
		move := func(i int) int {
			if i < 0 {
				return 0
			}
			return moments[i].Move
		}
		for i, m := range moments {
			v := m.Error + blur[i]
			for back := 1; back <= l.Dead; back++ {
				v += move(i - back)
			}
			if m.Error != e || m.Move != max(-l.Step, min(l.Step, -v)) {
				t.Fatal(l, i, m, e, v)
			}
			e += move(i-l.Dead) + noise[i]
		}
	}
}

// P5.2: the numbers of Worst, in the chapter's example 1 and in loops without a dead time, noise or blur.
func TestWorst(t *testing.T) {
	for _, c := range []struct {
		l           register.Loop
		noise, blur []int
	}{
		{example(), []int{3, 3, 3, 3}, []int{-1, 0, 0, 0}},
		{stiff(), []int{5, 5}, []int{0, 0}},
		{register.Loop{Dead: 1, Blur: 4, Step: 8}, []int{0, 0, 0}, []int{-4, 0, 0}},
	} {
		if noise, blur, code := register.Worst(c.l); code != api.OK || !slices.Equal(noise, c.noise) || !slices.Equal(blur, c.blur) {
			t.Error(c.l, noise, blur, code)
		}
	}
	for _, l := range wrongLoops() {
		if noise, blur, code := register.Worst(l); noise != nil || blur != nil || code != api.ErrRegister {
			t.Error(l, noise, blur, code)
		}
	}
}

// P5.2: with the numbers of Worst the last copy has just the bound as its error.
func TestWorstReachesBound(t *testing.T) {
	rnd := rand.New(rand.NewSource(3))
	for range 500 {
		l := anyLoop(rnd)
		noise, blur, code := register.Worst(l)
		bound, _ := register.Bound(l)
		if code != api.OK || len(noise) != l.Dead+2 || len(blur) != l.Dead+2 {
			t.Fatal(l, noise, blur, code)
		}
		if last := play(t, l, 0, noise, blur)[l.Dead+1]; last.Error != bound {
			t.Error(l, last, bound)
		}
	}
}

// expectBeat checks that Beat returns one number of noise, as often as it must.
func expectBeat(t *testing.T, l register.Loop, e int, moves []int, want int) {
	t.Helper()
	if noise, code := register.Beat(l, e, moves); code != api.OK || !slices.Equal(noise, slices.Repeat([]int{want}, l.Dead+1)) {
		t.Error(l, e, moves, noise, code)
	}
}

// P5.2: noise that goes the way of the error; if both signs do it, it is Noise.
func TestBeat(t *testing.T) {
	for sum, want := range map[int]int{0: 3, 1: 3, 17: 3, 100: 3, -1: -3, -9: -3, -17: -3, -18: 3, -19: 3, -500: 3} {
		expectBeat(t, example(), sum, []int{0, 0, 0}, want)
		expectBeat(t, example(), 0, []int{sum, 0, 0}, want)
		expectBeat(t, example(), 0, []int{0, 0, sum}, want)
		expectBeat(t, example(), sum+9, []int{-2, -3, -4}, want)
	}
	expectBeat(t, stiff(), -1, []int{0}, -5)
	expectBeat(t, stiff(), -10, []int{0}, 5)
	expectBeat(t, register.Loop{Dead: 1, Step: 1}, -1, []int{0, 0}, 0)
	expectBeat(t, example(), 1000000, []int{1000000, -1000000, 1000000}, 3)
	expectBeat(t, example(), -1000000, []int{-1000000, -1000000, -1000000}, 3)
}

// P5.2: what Beat refuses, and in which order.
func TestBeatErrors(t *testing.T) {
	refuse := func(l register.Loop, e int, moves []int, want api.Errno) {
		t.Helper()
		if noise, code := register.Beat(l, e, moves); noise != nil || code != want {
			t.Error(l, e, moves, noise, code)
		}
	}
	for _, l := range wrongLoops() {
		refuse(l, 0, []int{0}, api.ErrRegister)
		refuse(l, math.MinInt, nil, api.ErrRegister)
	}
	for _, moves := range [][]int{nil, {0, 0}, {0, 0, 0, 0}, {math.MinInt}} {
		refuse(example(), 0, moves, api.ErrArg)
		refuse(example(), math.MaxInt, moves, api.ErrArg)
	}
	for _, n := range []int{1000001, -1000001, math.MaxInt, math.MinInt} {
		refuse(example(), n, []int{0, 0, 0}, api.ErrRange)
		for i := range 3 {
			moves := []int{0, 0, 0}
			moves[i] = n
			refuse(example(), 0, moves, api.ErrRange)
		}
	}
}
