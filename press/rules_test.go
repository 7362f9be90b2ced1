package press_test

import (
	"math"
	"math/rand"
	"reflect"
	"slices"
	"testing"

	"foldhouse/api"
	"foldhouse/press"
)

// R3: nil lists and empty lists are the same.
func TestEmpty(t *testing.T) {
	p, s, stopped := jammed(1, 0), begin(1), press.Goal{Pressed: []bool{false}}
	for _, l := range [][]press.Action{nil, {}} {
		if e := press.Verify(p, s, stopped, l); e != api.OK {
			t.Error(e)
		}
		if e := press.Verify(p, s, printing(true), l); e != api.ErrFalse {
			t.Error(e)
		}
		if got, n, e := press.Program(p, s, l); !reflect.DeepEqual(got, s) || n != 0 || e != api.OK {
			t.Error(got, n, e)
		}
	}
	for _, l := range [][]int{nil, {}} {
		if e := press.Refute(p, s, printing(true), l); e != api.ErrFalse {
			t.Error(e)
		}
	}
	for _, l := range [][]bool{nil, {}} {
		if _, e := press.Find(p, s, press.Goal{Pressed: l}); e != api.ErrArg {
			t.Error(e)
		}
	}
}

// R4: arguments are not changed.
func TestArguments(t *testing.T) {
	p, s, g := jammed(2, 1), runs(2, 3, 4), printing(true, false)
	l, codes := []press.Action{act(press.Off, 1), act(press.Crawl), act(press.Run)}, []int{9, 5, 5, 1}
	press.Safe(p, s)
	press.Do(p, s, act(press.Off, 1))
	press.Program(p, s, l)
	press.Break(p, s, 1)
	press.Print(p, s, 9)
	press.Code(p, s)
	press.Find(p, s, g)
	if e := press.Verify(p, s, g, l); e != api.OK {
		t.Error(e)
	}
	press.Closed(p, s)
	press.Refute(p, s, g, codes)
	if !reflect.DeepEqual(p, jammed(2, 1)) || !reflect.DeepEqual(s, runs(2, 3, 4)) || !reflect.DeepEqual(g, printing(true, false)) {
		t.Error(p, s, g)
	}
	if !slices.Equal(l, []press.Action{act(press.Off, 1), act(press.Crawl), act(press.Run)}) || !slices.Equal(codes, []int{9, 5, 5, 1}) {
		t.Error(l, codes)
	}
}

// R4: a result that is changed changes neither an argument nor a later result.
func TestResults(t *testing.T) {
	p, s := jammed(2, 0), runs(2, 3, 4)
	for range 2 {
		first, _ := press.Begin(p)
		done, _ := press.Do(p, s, act(press.Off, 1))
		same, _, _ := press.Program(p, s, nil)
		stuck, _, _ := press.Program(p, s, []press.Action{act(press.Stop)})
		torn, _, _ := press.Break(p, s, 0)
		printed, waste, _ := press.Print(p, s, 9)
		none, _, _ := press.Print(p, s, 0)
		l, _ := press.Find(p, begin(2), printing(true, true))
		codes, _ := press.Closed(p, begin(2))
		if l[0] != act(press.Crawl) || codes[0] != 0 || waste[0] != warm(0, 0) || first.Units[0] != (press.Unit{}) {
			t.Error(l, codes, waste, first)
		}
		for _, state := range []press.State{first, done, same, stuck, torn, printed, none} {
			state.Units[0], state.Units[1] = press.Unit{Open: true, Inked: 77}, press.Unit{Inked: 77}
		}
		l[0], codes[0], waste[0] = press.Action{}, 77, press.Waste{}
		if !reflect.DeepEqual(s, runs(2, 3, 4)) {
			t.Fatal(s)
		}
	}
}

// wild returns a number that is mostly near a limit.
func wild(rnd *rand.Rand) int {
	limits := []int{0, 0, 0, 1, 2, 3, 12, 200, 10000, 24576, 30000, 1000000, math.MaxInt, math.MinInt, math.MaxInt / 4}
	return limits[rnd.Intn(len(limits))]*(1-2*rnd.Intn(2)) + rnd.Intn(3) - 1
}

// mostly returns a number that is allowed, and now and then one that need not be.
func mostly(rnd *rand.Rand, n int) int {
	if rnd.Intn(30) == 0 {
		return wild(rnd)
	}
	return n
}

func wildTruths(rnd *rand.Rand, n int) []bool {
	if rnd.Intn(20) == 0 {
		n = rnd.Intn(6)
	}
	return jammed(n, rnd.Intn(1<<n)).Jammed
}

func wildState(rnd *rand.Rand, towers int) press.State {
	s := press.State{Drive: mostly(rnd, rnd.Intn(3)), Folder: rnd.Intn(5) == 0, Fresh: mostly(rnd, 0)}
	for range len(wildTruths(rnd, towers)) {
		web := rnd.Intn(3) > 0
		s.Units = append(s.Units, press.Unit{Open: rnd.Intn(8) == 0, Threaded: web, Clean: rnd.Intn(3) > 0, Pressed: web && rnd.Intn(2) == 0, Inked: mostly(rnd, rnd.Intn(9))})
	}
	return s
}

func wildProgram(rnd *rand.Rand) []press.Action {
	var l []press.Action
	for range rnd.Intn(8) {
		l = append(l, act(mostly(rnd, rnd.Intn(14)), mostly(rnd, rnd.Intn(2))))
	}
	return l
}

// expectNothing checks that with an error there is no other result.
func expectNothing(t *testing.T, e api.Errno, nothing bool) {
	t.Helper()
	if e != api.OK && !nothing {
		t.Error(e)
	}
}

// isZero reports whether a state is the zero value.
func isZero(s press.State) bool { return reflect.DeepEqual(s, press.State{}) }

// R2, P8: no function panics, and with an error there is no other result (but for that of a program).
func TestWild(t *testing.T) {
	rnd := rand.New(rand.NewSource(77))
	right := 0
	for range 20000 {
		towers := 1 + rnd.Intn(3)
		p := press.Press{Jammed: wildTruths(rnd, towers), Warm: mostly(rnd, 9), Tail: mostly(rnd, 9), Dirt: mostly(rnd, 9)}
		s := wildState(rnd, towers)
		is, e := press.Safe(p, s)
		expectNothing(t, e, !is)
		if is {
			right++
		}
		next, e := press.Do(p, s, act(mostly(rnd, rnd.Intn(14)), mostly(rnd, 0)))
		expectNothing(t, e, isZero(next))
		next, n, e := press.Program(p, s, wildProgram(rnd))
		expectNothing(t, e, is || isZero(next) && n == 0)
		next, n, e = press.Break(p, s, mostly(rnd, rnd.Intn(towers)))
		expectNothing(t, e, isZero(next) && n == 0)
		next, waste, e := press.Print(p, s, mostly(rnd, rnd.Intn(20)))
		expectNothing(t, e, isZero(next) && waste == nil)
		n, e = press.Code(p, s)
		expectNothing(t, e, n == 0)
		if rnd.Intn(20) > 0 {
			continue
		}
		g := press.Goal{Drive: mostly(rnd, rnd.Intn(3)), Pressed: wildTruths(rnd, towers)}
		l, e := press.Find(p, s, g)
		expectNothing(t, e, l == nil)
		press.Verify(p, s, g, wildProgram(rnd))
		codes, e := press.Closed(p, s)
		expectNothing(t, e, codes == nil)
		press.Refute(p, s, g, append(codes, wild(rnd)))
	}
	if right < 3000 {
		t.Error("not enough states", right)
	}
}
