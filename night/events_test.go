package night_test

import (
	"math"
	"math/rand"
	"slices"
	"testing"

	"foldhouse/api"
	"foldhouse/night"
)

func late(job, at int) night.Event { return night.Event{Kind: night.LatePage, A: job, At: at} }

func failure(machine, at, until int) night.Event {
	return night.Event{Kind: night.Failure, A: machine, At: at, Until: until}
}

func fixed(job int) night.Event { return night.Event{Kind: night.Fixed, A: job} }

// expectChange checks what events make of example 1, with its least plan.
func expectChange(t *testing.T, name string, l []night.Event, change func(n *night.Night)) {
	t.Helper()
	if n, e := night.Change(example(), least(), l); e != api.OK || !sameNight(n, changed(change)) {
		t.Error(name, n, e)
	}
}

// expectNoChange checks an error of events.
func expectNoChange(t *testing.T, name string, n night.Night, plan []night.Place, want api.Errno, l ...night.Event) {
	t.Helper()
	if n, e := night.Change(n, plan, l); e != want || !isNoNight(n) {
		t.Error(name, n, e, want)
	}
}

// P12.4: what each kind of event does.
func TestChange(t *testing.T) {
	expectChange(t, "no events", nil, func(n *night.Night) {})
	expectChange(t, "late", []night.Event{late(1, 30)}, func(n *night.Night) { n.Jobs[1].From = 30 })
	expectChange(t, "late up to its To", []night.Event{late(1, 40)}, func(n *night.Night) { n.Jobs[1].From = 40 })
	expectChange(t, "less late", []night.Event{late(1, 30), late(1, 29)}, func(n *night.Night) { n.Jobs[1].From = 30 })
	expectChange(t, "later", []night.Event{late(1, 30), late(1, 31)}, func(n *night.Night) { n.Jobs[1].From = 31 })
	expectChange(t, "numbers that do not matter", []night.Event{{Kind: night.LatePage, A: 1, At: 30, Until: -1}, {Kind: night.Fixed, At: 9999, Until: -5}},
		func(n *night.Night) { n.Jobs[1].From, n.Jobs[0].To = 30, 20 })
	expectChange(t, "down", []night.Event{failure(1, 7, 7)}, func(n *night.Night) { n.Machines[1].Down = []api.Span{{Lo: 7, Hi: 7}} })
	expectChange(t, "all the night", []night.Event{failure(0, 0, 1439)}, func(n *night.Night) { n.Machines[0].Down = []api.Span{{Lo: 0, Hi: 1439}} })
	expectChange(t, "fixed", []night.Event{fixed(2)}, func(n *night.Night) {
		n.Jobs[2].Machines, n.Jobs[2].From, n.Jobs[2].To = []int{1}, 50, 110
	})
	expectChange(t, "all fixed", []night.Event{fixed(2), fixed(0), fixed(1), fixed(0)}, func(n *night.Night) {
		for i, p := range least() {
			j := &n.Jobs[i]
			j.Machines, j.From, j.To = []int{p.Machine}, p.Begin, p.Begin+j.Length
		}
	})
	expectChange(t, "late, and then fixed", []night.Event{late(2, 90), fixed(2)}, func(n *night.Night) {
		n.Jobs[2].Machines, n.Jobs[2].From, n.Jobs[2].To = []int{1}, 50, 110
	})
	expectChange(t, "fixed, and not late", []night.Event{fixed(2), late(2, 50)}, func(n *night.Night) {
		n.Jobs[2].Machines, n.Jobs[2].From, n.Jobs[2].To = []int{1}, 50, 110
	})
	n, e := night.Change(example(), nil, []night.Event{late(0, 5), failure(0, 5, 6)})
	if e != api.OK || n.Jobs[0].From != 5 || len(n.Machines[0].Down) != 1 {
		t.Error("without a plan", n, e)
	}
}

// P12.4: the places of a plan are taken as they are.
func TestChangeByAnyPlan(t *testing.T) {
	n, e := night.Change(example(), places(1, 100, 1, 100, 1, 100), []night.Event{fixed(0), fixed(2)})
	if e != api.OK || n.Jobs[0].Machines[0] != 1 || n.Jobs[0].From != 100 || n.Jobs[0].To != 120 || n.Jobs[2].To != 160 {
		t.Error(n, e)
	}
	for _, p := range []night.Place{{Machine: 2}, {Machine: -1}, {Machine: math.MaxInt}, {Begin: -1}, {Begin: 1421}, {Begin: math.MaxInt}, {Begin: math.MinInt}} {
		plan := slices.Repeat([]night.Place{p}, 3)
		expectNoChange(t, "a place", example(), plan, api.ErrNight, fixed(0))
		if _, e := night.Change(example(), plan, []night.Event{late(0, 1)}); e != api.OK {
			t.Error("a place that is not needed", e)
		}
	}
	n, e = night.Change(example(), places(0, 1420, 0, 0, 0, 0), []night.Event{fixed(0)})
	if e != api.OK || n.Jobs[0].From != 1420 || n.Jobs[0].To != 1440 {
		t.Error("the last place", n, e)
	}
}

// P12.4: the intervals of a failure are joined where they overlap or adjoin.
func TestJoin(t *testing.T) {
	n := down(10, 19, 30, 39, 50, 59)
	for _, c := range []struct {
		at, until int
		want      []int
	}{
		{0, 8, []int{0, 8, 10, 19, 30, 39, 50, 59}},
		{0, 9, []int{0, 19, 30, 39, 50, 59}},
		{15, 15, []int{10, 19, 30, 39, 50, 59}},
		{20, 28, []int{10, 28, 30, 39, 50, 59}},
		{20, 29, []int{10, 39, 50, 59}},
		{21, 28, []int{10, 19, 21, 28, 30, 39, 50, 59}},
		{21, 29, []int{10, 19, 21, 39, 50, 59}},
		{0, 1439, []int{0, 1439}},
		{12, 55, []int{10, 59}},
		{10, 59, []int{10, 59}},
		{60, 61, []int{10, 19, 30, 39, 50, 61}},
		{61, 62, []int{10, 19, 30, 39, 50, 59, 61, 62}},
	} {
		got, e := night.Change(n, nil, []night.Event{failure(1, c.at, c.until)})
		if e != api.OK || !sameNight(got, down(c.want...)) {
			t.Error(c, got, e)
		}
	}
}

// P12.4: events that are not allowed, and nights that come of them that are not right.
func TestChangeErrors(t *testing.T) {
	n, plan := example(), least()
	for _, kind := range []int{0, 4, -1, math.MinInt, math.MaxInt} {
		expectNoChange(t, "a kind", n, plan, api.ErrArg, night.Event{Kind: kind})
	}
	for _, job := range []int{-1, 3, math.MinInt, math.MaxInt} {
		expectNoChange(t, "no job is late", n, plan, api.ErrArg, late(job, 5))
		expectNoChange(t, "no job is fixed", n, plan, api.ErrArg, fixed(job))
	}
	for _, machine := range []int{-1, 2, math.MinInt, math.MaxInt} {
		expectNoChange(t, "no machine", n, plan, api.ErrArg, failure(machine, 5, 6))
	}
	for _, minute := range []int{-1, 1440, math.MinInt, math.MaxInt} {
		expectNoChange(t, "late at no minute", n, plan, api.ErrRange, late(0, minute))
		expectNoChange(t, "down at no minute", n, plan, api.ErrRange, failure(0, minute, 1439))
		expectNoChange(t, "down until no minute", n, plan, api.ErrRange, failure(0, 0, minute))
	}
	expectNoChange(t, "down until before", n, plan, api.ErrRange, failure(0, 5, 4))
	for _, l := range [][]night.Place{nil, plan[:2], append(least(), night.Place{})} {
		expectNoChange(t, "not a place for each job", n, l, api.ErrArg, fixed(0))
	}
	expectNoChange(t, "too late", n, plan, api.ErrNight, late(1, 41))
	expectNoChange(t, "fixed, and then late", n, plan, api.ErrNight, fixed(2), late(2, 51))
	expectNoChange(t, "too late, and then less late", n, plan, api.ErrNight, late(1, 41), late(1, 5))
	if got, e := night.Change(n, plan, []night.Event{late(1, 41), fixed(1)}); e != api.OK || got.Jobs[1].From != 20 {
		t.Error("too late, and then fixed", got, e)
	}
	expectNoChange(t, "an event before the night", n, plan, api.ErrRange, late(1, 41), late(0, 1440))
	expectNoChange(t, "the first event", n, plan, api.ErrRange, late(0, 1440), fixed(3))
	expectNoChange(t, "the second event", n, plan, api.ErrArg, late(0, 0), fixed(3), late(0, 1440))
	expectNoChange(t, "no machine before no minute", n, plan, api.ErrArg, failure(2, 5, 4))
	expectNoChange(t, "no job before no minute", n, plan, api.ErrArg, late(3, -1))
	expectNoChange(t, "too many before a kind", n, plan, api.ErrMany, make([]night.Event, 21)...)
	expectNoChange(t, "20 that are none", n, plan, api.ErrArg, make([]night.Event, 20)...)
}

// P12.4: at most 20 events, and at most 10 intervals of Down, at the end.
func TestChangeLimits(t *testing.T) {
	n := example()
	var l []night.Event
	for i := range 10 {
		l = append(l, failure(1, 3*i, 3*i+1))
	}
	if got, e := night.Change(n, nil, l); e != api.OK || len(got.Machines[1].Down) != 10 {
		t.Error("10 intervals", got, e)
	}
	many := append(slices.Clone(l), failure(1, 100, 101))
	expectNoChange(t, "11 intervals", n, nil, api.ErrArg, many...)
	joined := append(many, failure(1, 29, 99))
	if got, e := night.Change(n, nil, joined); e != api.OK || len(got.Machines[1].Down) != 10 {
		t.Error("11 intervals that are joined", got, e)
	}
	if _, e := night.Change(n, nil, slices.Repeat(l[:1], 20)); e != api.OK {
		t.Error("20 events", e)
	}
	expectNoChange(t, "21 events", n, nil, api.ErrMany, slices.Repeat(l[:1], 21)...)
}

// modelChange changes a night minute by minute, by events that are allowed.
func modelChange(n night.Night, plan []night.Place, l []night.Event) night.Night {
	n = copyOf(n)
	works := make([][night.MaxTime]bool, len(n.Machines))
	for i, m := range n.Machines {
		for minute := range works[i] {
			works[i][minute] = !isDown(m, minute)
		}
	}
	for _, x := range l {
		switch x.Kind {
		case 1:
			if n.Jobs[x.A].From < x.At {
				n.Jobs[x.A].From = x.At
			}
		case 2:
			for minute := x.At; minute <= x.Until; minute++ {
				works[x.A][minute] = false
			}
		case 3:
			j, p := &n.Jobs[x.A], plan[x.A]
			j.Machines, j.From, j.To = []int{p.Machine}, p.Begin, p.Begin+j.Length
		}
	}
	for i := range n.Machines {
		m := &n.Machines[i]
		m.Down = nil
		for minute, is := range works[i] {
			last := len(m.Down) - 1
			switch {
			case is:
			case last >= 0 && m.Down[last].Hi == minute-1:
				m.Down[last].Hi = minute
			default:
				m.Down = append(m.Down, api.Span{Lo: minute, Hi: minute})
			}
		}
	}
	return n
}

// anyEvents returns events of the first minutes of a night.
func anyEvents(rnd *rand.Rand, n night.Night, count, end int) []night.Event {
	var l []night.Event
	for range count {
		at := rnd.Intn(end)
		switch {
		case rnd.Intn(2) == 0 || len(n.Jobs) == 0:
			l = append(l, failure(rnd.Intn(len(n.Machines)), at, at+rnd.Intn(end-at)))
		case rnd.Intn(2) == 0:
			l = append(l, late(rnd.Intn(len(n.Jobs)), at/2))
		default:
			l = append(l, fixed(rnd.Intn(len(n.Jobs))))
		}
	}
	return l
}

// P12.4: any events have the effect that the chapter's words say, minute by minute.
func TestAnyChange(t *testing.T) {
	rnd := rand.New(rand.NewSource(11))
	right, wrong := 0, 0
	for range 3000 {
		n := anyNight(rnd, 1+rnd.Intn(4), rnd.Intn(7), 30)
		var plan []night.Place
		for _, j := range n.Jobs {
			plan = append(plan, night.Place{Machine: rnd.Intn(len(n.Machines)), Begin: rnd.Intn(j.To)})
		}
		l := anyEvents(rnd, n, rnd.Intn(8), 30)
		want := modelChange(n, plan, l)
		e := night.Check(want)
		got, f := night.Change(n, plan, l)
		if e != api.OK {
			wrong++
			if f != e || !isNoNight(got) {
				t.Error(n, l, got, f, e)
			}
			continue
		}
		right++
		if f != api.OK || !sameNight(got, want) {
			t.Error(n, l, got, f, want)
		}
	}
	if right < 500 || wrong < 200 {
		t.Error("not enough", right, wrong)
	}
}

func expectAgain(t *testing.T, name string, now, moved int, want []night.Place, l ...night.Event) {
	t.Helper()
	plan, k, e := night.Again(example(), least(), l, now)
	if e != api.OK || k != moved || !slices.Equal(plan, want) {
		t.Error(name, plan, k, e)
	}
}

func expectNotAgain(t *testing.T, name string, now int, want api.Errno, l ...night.Event) {
	t.Helper()
	if plan, k, e := night.Again(example(), least(), l, now); plan != nil || k != 0 || e != want {
		t.Error(name, plan, k, e, want)
	}
}

// P12.4: the examples, and what has begun and what has not.
func TestAgain(t *testing.T) {
	onZero := places(0, 0, 0, 20, 0, 80)
	expectNotAgain(t, "a failure in a job", 60, api.ErrNone, failure(1, 60, 1439))
	expectAgain(t, "a failure before a job", 40, 1, onZero, failure(1, 40, 1439))
	expectAgain(t, "a failure as a job begins", 50, 1, onZero, failure(1, 50, 1439))
	expectNotAgain(t, "a failure when a job has begun", 51, api.ErrNone, failure(1, 51, 1439))
	expectNotAgain(t, "a failure in the last minute of a job", 1440, api.ErrNone, failure(1, 109, 109))
	expectAgain(t, "a failure behind a job", 1440, 0, least(), failure(1, 110, 1439))
	expectAgain(t, "no events", 0, 0, least())
	expectAgain(t, "no events as all has begun", 1440, 0, least())
	expectAgain(t, "a late page", 5, 1, places(0, 0, 0, 35, 1, 50), late(1, 35))
	expectAgain(t, "a late job that moves others", 0, 3, places(0, 5, 0, 25, 1, 55), late(0, 5))
	expectNotAgain(t, "a late job that has begun", 1, api.ErrNight, fixed(0), late(0, 5))
	expectAgain(t, "a job that begins now can be late", 0, 3, places(0, 1, 0, 21, 1, 51), late(0, 1))
	expectAgain(t, "a job that has begun is not late", 40, 0, least(), late(0, 0), late(1, 20))
	expectAgain(t, "a fixed job", 5, 1, places(0, 0, 0, 30, 1, 50), fixed(2), failure(0, 20, 29))
	expectNotAgain(t, "nothing is early enough", 5, api.ErrNone, fixed(2), failure(0, 20, 49))
	expectNotAgain(t, "a page that is too late", 5, api.ErrNight, late(1, 41))
}

// P12.4: a plan that is not the least one is made less, but not what has begun.
func TestAgainMakesLess(t *testing.T) {
	row := places(0, 3, 0, 24, 0, 84)
	for _, c := range []struct {
		now, moved int
		want       []night.Place
	}{
		{0, 3, least()},
		{3, 2, places(0, 3, 0, 23, 1, 53)},
		{4, 2, places(0, 3, 0, 23, 1, 53)},
		{24, 1, places(0, 3, 0, 24, 1, 53)},
		{60, 1, places(0, 3, 0, 24, 1, 60)},
		{73, 1, places(0, 3, 0, 24, 1, 73)},
		{80, 1, places(0, 3, 0, 24, 1, 80)},
	} {
		n := example()
		n.Jobs[2].To = 150
		plan, moved, e := night.Again(n, row, nil, c.now)
		if e != api.OK || moved != c.moved || !slices.Equal(plan, c.want) {
			t.Error(c, plan, moved, e)
		}
	}
}

// P12.4: minutes that there are not, and the order of errors.
func TestAgainErrors(t *testing.T) {
	many := make([]night.Event, 21)
	for _, now := range []int{-1, 1441, math.MinInt, math.MaxInt} {
		expectNotAgain(t, "no minute", now, api.ErrRange)
		expectNotAgain(t, "no minute before events", now, api.ErrRange, many...)
	}
	expectNotAgain(t, "too many events", 5, api.ErrMany, many...)
	expectNotAgain(t, "20 events that are none", 5, api.ErrArg, many[:20]...)
	expectNotAgain(t, "no job", 5, api.ErrArg, late(3, 5))
	expectNotAgain(t, "no minute of an event", 5, api.ErrRange, failure(0, 5, 1440))
	expectNotAgain(t, "an event before the night", 60, api.ErrArg, late(1, 50), night.Event{})
}

// P12.4: jobs that begin just now, or have begun just before it.
func TestAgainInTime(t *testing.T) {
	if _, _, e := night.Again(example(), places(0, 0, 0, 40, 1, 80), nil, 40); e != api.OK {
		t.Error("just in time", e)
	}
	n := changed(func(n *night.Night) { n.Jobs[2].To = 1440 })
	last := places(0, 0, 0, 20, 1, 1380)
	for now, machine := range map[int]int{1380: 0, 1381: 1, 1440: 1} {
		plan, _, e := night.Again(n, last, nil, now)
		if e != api.OK || plan[2] != (night.Place{Machine: machine, Begin: 1380}) {
			t.Error(now, plan, e)
		}
	}
	if plan, moved, e := night.Again(n, last, []night.Event{late(2, 1381)}, 1380); plan != nil || moved != 0 || e != api.ErrNight {
		t.Error("too late", plan, moved, e)
	}
	if plan, moved, e := night.Again(machines(1, 0), nil, nil, 1440); len(plan) != 0 || moved != 0 || e != api.OK {
		t.Error("no jobs", plan, moved, e)
	}
	expectAgain(t, "20 events, and jobs that have begun", 1440, 0, least(), slices.Repeat([]night.Event{late(0, 0)}, 20)...)
}

// P12.4, P12.5: any plan made anew is the least one of those that keep what has begun.
func TestAnyAgain(t *testing.T) {
	rnd := rand.New(rand.NewSource(12))
	met := map[api.Errno]int{}
	kept, changes := 0, 0
	for range 6000 {
		n := anySmallNight(rnd)
		plan, e := night.Plan(n)
		if e != api.OK {
			continue
		}
		if len(plan) > 0 && rnd.Intn(2) == 0 {
			job := rnd.Intn(len(plan))
			minutes, _ := night.Slack(n, plan, job)
			plan[job].Begin += minutes
		}
		for i := range n.Jobs {
			n.Jobs[i].To += rnd.Intn(4)
		}
		now := rnd.Intn(8)
		l := anyEvents(rnd, n, rnd.Intn(3), 10)
		var before []night.Event
		for i, p := range plan {
			if p.Begin < now {
				before = append(before, fixed(i))
			}
		}
		want := modelChange(n, plan, append(before, l...))
		for i, p := range plan {
			if p.Begin >= now {
				want.Jobs[i].From = max(want.Jobs[i].From, now)
			}
		}
		wantE := night.Check(want)
		var best []night.Place
		if wantE == api.OK {
			right := 0
			if best, right = bruteLeast(want); right == 0 {
				wantE = api.ErrNone
			}
		}
		wantMoved := 0
		for i := range best {
			if best[i].Machine != plan[i].Machine || best[i].Begin != plan[i].Begin {
				wantMoved++
			} else if plan[i].Begin < now {
				kept++
			}
		}
		got, moved, e := night.Again(n, plan, l, now)
		if e != wantE || moved != wantMoved || !slices.Equal(got, best) {
			t.Error(n, plan, l, now, got, moved, e, best, wantMoved, wantE)
		}
		met[wantE]++
		changes += moved
	}
	if met[api.OK] < 500 || met[api.ErrNone] < 50 || met[api.ErrNight] < 50 || kept < 200 || changes < 200 {
		t.Error("not enough", met, kept, changes)
	}
}
