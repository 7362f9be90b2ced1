package press_test

import (
	"math"
	"math/rand"
	"slices"
	"testing"

	"foldhouse/api"
	"foldhouse/press"
)

func expectRefute(t *testing.T, p press.Press, s press.State, g press.Goal, codes []int, want api.Errno) {
	t.Helper()
	if e := press.Refute(p, s, g, codes); e != want {
		t.Fatal(p, s, g, codes, e)
	}
}

func expectClosed(t *testing.T, p press.Press, s press.State, want []int) {
	t.Helper()
	if l, e := press.Closed(p, s); !slices.Equal(l, want) || e != api.OK {
		t.Fatal(p, s, l, e, want)
	}
}

// reach returns the codes of all situations that actions lead to: those of an action more are added until there are none.
func reach(p press.Press, s press.State) []int {
	met := map[int]bool{codeOf(s): true}
	l := []int{codeOf(s)}
	for i := 0; i < len(l); i++ {
		from := at(l[i], len(p.Jammed))
		for _, a := range everyAction(len(p.Jammed)) {
			if !may(p, from, a) {
				continue
			}
			if code := codeOf(then(from, a)); !met[code] {
				met[code] = true
				l = append(l, code)
			}
		}
	}
	slices.Sort(l)
	return l
}

// idle are the codes of example 2: of the ten safe situations in which the tower is neither Clean nor Pressed.
func idle() []int { return []int{0, 1, 3, 6, 9, 12, 13, 15, 18, 21} }

// P7.4: the chapter's example 2.
func TestClosedExample(t *testing.T) {
	p := jammed(1, 1)
	expectClosed(t, p, begin(1), idle())
	expectRefute(t, p, begin(1), printing(true), idle(), api.OK)
	expectClosed(t, p, press.State{Drive: press.Crawling, Units: units(press.Unit{Threaded: true, Inked: 9})}, idle())
	// A Jammed tower that is Clean stays so: 8 situations of a press that stands, 3 of one that crawls, and one that runs.
	clean := press.State{Units: units(press.Unit{Clean: true})}
	l, e := press.Closed(p, clean)
	if e != api.OK || len(l) != 12 || slices.ContainsFunc(l, func(code int) bool { return slices.Contains(idle(), code) }) {
		t.Error(l, e)
	}
	for n, want := range map[int]int{1: 16 + 5 + 1, 2: 128 + 25 + 9, 3: 1024 + 125 + 61} {
		if l, e := press.Closed(jammed(n, 0), begin(n)); len(l) != want || e != api.OK {
			t.Error(n, len(l), e)
		}
	}
}

// P7.4: what can be reached from any state.
func TestEveryClosed(t *testing.T) {
	rnd := rand.New(rand.NewSource(74))
	for towers := 1; towers <= 3; towers++ {
		all := safe(towers)
		for bits := range 1 << towers {
			p := jammed(towers, bits)
			for range min(len(all), 60) {
				s := inked(rnd, all[rnd.Intn(len(all))])
				expectClosed(t, p, s, reach(p, s))
			}
		}
	}
}

// P7.4: codes that prove nothing.
func TestRefuteErrors(t *testing.T) {
	p, s, g := jammed(1, 1), begin(1), printing(true)
	for i := range idle() {
		expectRefute(t, p, s, g, slices.Delete(idle(), i, i+1), api.ErrFalse)
	}
	for _, code := range []int{math.MinInt, -3, -1, 2, 4, 5, 7, 8, 10, 11, 48, 49, 50, 62, 86, 95, 96, 97, 192, 24576, 30000, 1 << 40, math.MaxInt} {
		expectRefute(t, p, s, g, append(idle(), code), api.ErrFalse)
		expectRefute(t, p, s, g, append([]int{code}, idle()...), api.ErrFalse)
	}
	for _, l := range [][]int{nil, {}, {0}, {0, 0}, {1, 0}} {
		expectRefute(t, p, s, g, l, api.ErrFalse)
	}
	// The goal is among the codes, or is that of the state.
	expectRefute(t, p, s, press.Goal{Drive: press.Crawling, Pressed: []bool{false}}, idle(), api.ErrFalse)
	expectRefute(t, p, s, press.Goal{Pressed: []bool{false}}, idle(), api.ErrFalse)
	expectRefute(t, p, s, press.Goal{Pressed: []bool{true}}, idle(), api.OK)
	expectRefute(t, p, s, printing(false), idle(), api.OK)
	// What is closed for a Jammed tower is not for another one.
	expectRefute(t, jammed(1, 0), s, g, idle(), api.ErrFalse)
	// The state is not among codes that are closed.
	expectRefute(t, p, press.State{Units: units(press.Unit{Clean: true})}, press.Goal{Pressed: []bool{true}}, idle(), api.ErrFalse)
}

// P7.4: codes come in any order, and more than once.
func TestRefuteOrder(t *testing.T) {
	p, s, g := jammed(1, 1), begin(1), printing(true)
	rnd := rand.New(rand.NewSource(744))
	l := slices.Repeat(idle(), 3000)
	rnd.Shuffle(len(l), func(i, k int) { l[i], l[k] = l[k], l[i] })
	expectRefute(t, p, s, g, l, api.OK)
	expectRefute(t, p, s, g, append(l, 0), api.ErrMany)
	expectRefute(t, p, s, g, make([]int, 30000), api.ErrFalse)
	expectRefute(t, p, s, g, make([]int, 30001), api.ErrMany)
	expectRefute(t, p, s, press.Goal{Pressed: []bool{false}}, append(l, -1), api.ErrMany)
	slices.Sort(l)
	slices.Reverse(l)
	expectRefute(t, p, s, g, l, api.OK)
}

// proves is the definition of the chapter.
func proves(p press.Press, s press.State, g press.Goal, codes []int) bool {
	towers := len(p.Jammed)
	has := map[int]bool{}
	for _, code := range codes {
		has[code] = true
	}
	if !has[codeOf(s)] {
		return false
	}
	for code := range has {
		from := at(code, towers)
		if !isSafe(from) || isMet(from, g) {
			return false
		}
		for _, a := range everyAction(towers) {
			if may(p, from, a) && !has[codeOf(then(from, a))] {
				return false
			}
		}
	}
	return true
}

// P7.4, P7.5: codes of two states together, some of them left out or added, prove what they prove, and only if there is no program.
func TestAnyProof(t *testing.T) {
	rnd := rand.New(rand.NewSource(7444))
	proved := 0
	for range 600 {
		towers := 1 + rnd.Intn(2)
		all := safe(towers)
		p, g := jammed(towers, rnd.Intn(1<<towers)), goals(towers)[rnd.Intn(3<<towers)]
		s, other := all[rnd.Intn(len(all))], all[rnd.Intn(len(all))]
		codes := slices.Concat(reach(p, s), reach(p, other))
		switch i := rnd.Intn(len(codes)); rnd.Intn(4) {
		case 0:
			codes = slices.DeleteFunc(codes, func(code int) bool { return code == codes[i] })
		case 1:
			codes = slices.Insert(codes, i, rnd.Intn(codesOf(towers)))
		}
		want := api.ErrFalse
		if proves(p, s, g, codes) {
			want = api.OK
			proved++
			expectNone(t, p, s, g)
		}
		expectRefute(t, p, s, g, codes, want)
	}
	if proved < 100 {
		t.Error("not enough proofs", proved)
	}
}

// P7.5: after a break a press prints again with the towers that were Pressed, unless the torn one was Pressed and is Jammed. (No other Jammed tower is Pressed that is not Clean: no program leads to that from the beginning.)
func TestAfterBreak(t *testing.T) {
	rnd := rand.New(rand.NewSource(75))
	breaks := 0
	for towers := 1; towers <= 3; towers++ {
		for _, s := range safe(towers) {
			p := jammed(towers, rnd.Intn(1<<towers))
			lame := func(i int) bool { return p.Jammed[i] && s.Units[i].Pressed && !s.Units[i].Clean }
			if on(s) == 0 || slices.ContainsFunc([]int{0, 1, 2}[:towers], lame) {
				continue
			}
			g := printing(make([]bool, towers)...)
			for i, u := range s.Units {
				g.Pressed[i] = u.Pressed
			}
			for unit, u := range s.Units {
				torn, _, e := press.Break(p, s, unit)
				if e != api.OK {
					continue
				}
				breaks++
				if u.Pressed && p.Jammed[unit] {
					expectNone(t, p, torn, g)
				} else if l, e := press.Find(p, torn, g); e != api.OK || press.Verify(p, torn, g, l) != api.OK {
					t.Fatal(p, s, unit, l, e)
				}
			}
		}
	}
	if breaks < 300 {
		t.Error("not enough breaks", breaks)
	}
}
