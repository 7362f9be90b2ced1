package press_test

import (
	"math"
	"math/rand"
	"slices"
	"testing"

	"foldhouse/api"
	"foldhouse/press"
)

func expectFind(t *testing.T, p press.Press, s press.State, g press.Goal, want ...press.Action) {
	t.Helper()
	if l, e := press.Find(p, s, g); !slices.Equal(l, want) || e != api.OK {
		t.Fatal(p, s, g, l, e, want)
	}
	if e := press.Verify(p, s, g, want); e != api.OK {
		t.Fatal(p, s, g, want, e)
	}
}

func expectNone(t *testing.T, p press.Press, s press.State, g press.Goal) {
	t.Helper()
	if l, e := press.Find(p, s, g); l != nil || e != api.ErrNone {
		t.Fatal(p, s, g, l, e)
	}
}

// P7.3: the chapter's examples 1, 2 and 4.
func TestFindExamples(t *testing.T) {
	want := []press.Action{act(press.Crawl), act(press.Wash), act(press.Thread), act(press.On), act(press.Run)}
	expectFind(t, jammed(1, 0), begin(1), printing(true), want...)
	expectNone(t, jammed(1, 1), begin(1), printing(true))
	torn, lost, e := press.Break(jammed(1, 0), runs(9, 9), 0)
	if lost != 4 || e != api.OK {
		t.Error(torn, lost, e)
	}
	expectFind(t, jammed(1, 0), torn, printing(true), want...)
}

// P7.3: programs that take a web away, close guards, and lead to another drive.
func TestFindWays(t *testing.T) {
	p := jammed(2, 0)
	s := press.State{Folder: true, Units: units(press.Unit{Threaded: true}, press.Unit{Open: true, Threaded: true, Clean: true})}
	expectFind(t, p, s, press.Goal{Pressed: []bool{false, false}})
	expectFind(t, p, s, press.Goal{Drive: press.Crawling, Pressed: []bool{false, false}}, act(press.Close, 1), act(press.Lock), act(press.Crawl))
	expectFind(t, p, s, printing(false, true), act(press.Close, 1), act(press.Lock), act(press.Crawl), act(press.On, 1), act(press.Run))
	expectFind(t, p, s, printing(true, true),
		act(press.Open), act(press.Close, 1), act(press.Lock), act(press.Cut), act(press.Close), act(press.Crawl),
		act(press.Wash), act(press.Thread), act(press.On), act(press.On, 1), act(press.Run))
	// A tower that prints is left before another one that is Pressed already.
	r := runs(0, 1, 1)
	expectFind(t, p, r, printing(false, true), act(press.Off))
	expectFind(t, p, r, printing(true, true))
	expectFind(t, p, r, press.Goal{Pressed: []bool{false, false}}, act(press.Off), act(press.Crawl), act(press.Off, 1), act(press.Stop))
	// A Jammed tower prints as long as it is Clean.
	expectFind(t, jammed(2, 3), s, printing(false, true), act(press.Close, 1), act(press.Lock), act(press.Crawl), act(press.On, 1), act(press.Run))
	expectNone(t, jammed(2, 3), s, printing(true, true))
	for _, g := range []press.Goal{{Pressed: []bool{true, false}}, printing(false, false)} {
		expectNone(t, p, s, g)
	}
}

// P7.3: goals that are none.
func TestGoalErrors(t *testing.T) {
	p, s := jammed(2, 0), begin(2)
	two := make([]bool, 2)
	for i, g := range []press.Goal{{}, {Pressed: []bool{}}, {Pressed: two[:1]}, {Pressed: make([]bool, 3)}, {Drive: -1, Pressed: two}, {Drive: 3, Pressed: two}, {Drive: math.MinInt, Pressed: two}, {Drive: math.MaxInt, Pressed: two}} {
		if l, e := press.Find(p, s, g); l != nil || e != api.ErrArg {
			t.Error(i, l, e)
		}
		for _, n := range []int{0, 1, 201} {
			if e := press.Verify(p, s, g, program(n)); e != api.ErrArg {
				t.Error(i, n, e)
			}
		}
		for _, n := range []int{0, 1, 30001} {
			if e := press.Refute(p, s, g, make([]int, n)); e != api.ErrArg {
				t.Error(i, n, e)
			}
		}
	}
}

// P7.3: programs that lead to a goal, and others.
func TestVerify(t *testing.T) {
	p, s := jammed(1, 0), begin(1)
	stopped, crawling := press.Goal{Pressed: []bool{false}}, press.Goal{Drive: press.Crawling, Pressed: []bool{false}}
	right := []press.Action{act(press.Crawl), act(press.Wash), act(press.Thread), act(press.On), act(press.Run)}
	for i, c := range []struct {
		g    press.Goal
		l    []press.Action
		want api.Errno
	}{
		{printing(true), right, api.OK},
		{printing(true), right[:4], api.ErrFalse},
		{printing(true), right[1:], api.ErrFalse},
		{printing(true), nil, api.ErrFalse},
		{printing(false), right, api.ErrFalse},
		{crawling, right, api.ErrFalse},
		{crawling, right[:3], api.OK},
		{crawling, right[:4], api.ErrFalse},
		{stopped, nil, api.OK},
		{stopped, []press.Action{}, api.OK},
		{stopped, program(1), api.OK},
		{stopped, program(200), api.OK},
		{stopped, program(201), api.ErrMany},
		{crawling, program(201), api.ErrMany},
		{stopped, []press.Action{act(0)}, api.ErrFalse},
		{stopped, []press.Action{act(press.Open, 1)}, api.ErrFalse},
		{stopped, []press.Action{act(press.Stop)}, api.ErrFalse},
		{crawling, []press.Action{act(press.Crawl), act(press.Crawl)}, api.ErrFalse},
		{printing(true), append(slices.Clone(right), act(press.Crawl), act(press.Wash)), api.ErrFalse},
		{printing(true), append(slices.Clone(right), act(press.Crawl), act(press.Run)), api.OK},
	} {
		if e := press.Verify(p, s, c.g, c.l); e != c.want {
			t.Error(i, e)
		}
	}
}

// far is the distance of a goal that cannot be reached.
const far = math.MaxInt

// distances returns how many actions at least lead from each safe situation to a goal: what leads to it in a step more is added until nothing is.
func distances(p press.Press, g press.Goal) map[int]int {
	towers := len(p.Jammed)
	before := map[int][]int{}
	dist := map[int]int{}
	var next []int
	for _, s := range safe(towers) {
		code := codeOf(s)
		dist[code] = far
		if isMet(s, g) {
			dist[code] = 0
			next = append(next, code)
		}
		for _, a := range everyAction(towers) {
			if may(p, s, a) {
				to := codeOf(then(s, a))
				before[to] = append(before[to], code)
			}
		}
	}
	for n := 1; len(next) > 0; n++ {
		last := next
		next = nil
		for _, to := range last {
			for _, code := range before[to] {
				if dist[code] == far {
					dist[code] = n
					next = append(next, code)
				}
			}
		}
	}
	return dist
}

// first returns the first one of the shortest programs: each action is the first one that comes nearer.
func first(p press.Press, s press.State, dist map[int]int) []press.Action {
	var l []press.Action
	for dist[codeOf(s)] > 0 {
		for _, a := range everyAction(len(p.Jammed)) {
			if may(p, s, a) && dist[codeOf(then(s, a))] == dist[codeOf(s)]-1 {
				l = append(l, a)
				s = then(s, a)
				break
			}
		}
	}
	return l
}

// expectSearch checks what Find, Verify, Closed and Refute say of a state and a goal.
func expectSearch(t *testing.T, p press.Press, s press.State, g press.Goal, dist map[int]int) {
	t.Helper()
	codes, e := press.Closed(p, s)
	if e != api.OK {
		t.Fatal(p, s, e)
	}
	if dist[codeOf(s)] == far {
		expectNone(t, p, s, g)
		expectRefute(t, p, s, g, codes, api.OK)
		return
	}
	expectFind(t, p, s, g, first(p, s, dist)...)
	expectRefute(t, p, s, g, codes, api.ErrFalse)
}

// P7.3, P7.5: from all states to all goals Find has the first one of the shortest programs, or Refute takes the proof that there is none.
func TestEveryGoal(t *testing.T) {
	rnd := rand.New(rand.NewSource(73))
	for towers := 1; towers <= 2; towers++ {
		for bits := range 1 << towers {
			p := jammed(towers, bits)
			for _, g := range goals(towers) {
				dist := distances(p, g)
				for _, s := range safe(towers) {
					if towers == 1 || rnd.Intn(4) == 0 {
						expectSearch(t, p, inked(rnd, s), g, dist)
					}
				}
			}
		}
	}
}

// P7.3, P7.5: the same for three towers, of which there are too many states for all of them.
func TestGoalsOfThree(t *testing.T) {
	rnd := rand.New(rand.NewSource(733))
	all := safe(3)
	for range 40 {
		p := jammed(3, rnd.Intn(8))
		if rnd.Intn(2) == 0 {
			p = jammed(3, 0)
		}
		g := goals(3)[rnd.Intn(24)]
		dist := distances(p, g)
		for range 10 {
			expectSearch(t, p, inked(rnd, all[rnd.Intn(len(all))]), g, dist)
		}
	}
}
