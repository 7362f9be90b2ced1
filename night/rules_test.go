package night_test

import (
	"math"
	"math/rand"
	"slices"
	"testing"

	"foldhouse/api"
	"foldhouse/night"
)

// R4: no argument is changed.
func TestArguments(t *testing.T) {
	rnd := rand.New(rand.NewSource(21))
	right := 0
	for range 2000 {
		n := anyNight(rnd, 1+rnd.Intn(4), 1+rnd.Intn(5), 15+rnd.Intn(30))
		before := copyOf(n)
		plan, e := night.Plan(n)
		proof, _ := night.Why(n)
		samePlan, sameProof := slices.Clone(plan), slices.Clone(proof)
		on := slices.Repeat([]int{-1}, len(n.Jobs))
		events := anyEvents(rnd, n, 3, 15)
		sameEvents := slices.Clone(events)
		night.Windows(n, on)
		night.Proves(n, proof)
		night.Right(n, plan)
		night.Least(n, plan)
		night.Slack(n, plan, 0)
		night.Change(n, plan, events)
		night.Again(n, plan, events, rnd.Intn(10))
		if !sameNight(n, before) || !slices.Equal(plan, samePlan) || !slices.Equal(proof, sameProof) || !slices.Equal(events, sameEvents) {
			t.Error(n, before, plan, samePlan, events, sameEvents)
		}
		if slices.ContainsFunc(on, func(m int) bool { return m != -1 }) {
			t.Error(on)
		}
		if e == api.OK {
			right++
		}
	}
	if right < 300 {
		t.Error("not enough", right)
	}
}

// R4: a night after events shares no memory with the one before them, and a plan none with another one.
func TestMemory(t *testing.T) {
	n := down(120, 130, 140, 150)
	before := copyOf(n)
	for _, l := range [][]night.Event{nil, {failure(0, 500, 510)}, {fixed(2)}, {late(0, 0)}} {
		plan := least()
		after, e := night.Change(n, plan, l)
		if e != api.OK {
			t.Fatal(e)
		}
		spoilNight(&after)
		if !sameNight(n, before) || !slices.Equal(plan, least()) {
			t.Error(l, n, plan)
		}
	}
	plan := least()
	again, _, _ := night.Again(n, plan, nil, 1440)
	if !slices.Equal(again, plan) {
		t.Error(again)
	}
	clear(again)
	if !slices.Equal(plan, least()) {
		t.Error(plan)
	}
	on := []int{0, 0, 1}
	l, _ := night.Windows(n, on)
	clear(l)
	if !slices.Equal(on, []int{0, 0, 1}) {
		t.Error(on)
	}
}

// spoilNight changes all the memory of a night.
func spoilNight(n *night.Night) {
	for i := range n.Machines {
		clear(n.Machines[i].Down[:cap(n.Machines[i].Down)])
	}
	for _, j := range n.Jobs {
		for _, l := range [][]int{j.Machines[:cap(j.Machines)], j.After[:cap(j.After)]} {
			for i := range l {
				l[i] = -7
			}
		}
	}
	clear(n.Machines[:cap(n.Machines)])
	clear(n.Jobs[:cap(n.Jobs)])
}

// R3: nil and empty lists are the same.
func TestEmpty(t *testing.T) {
	n := night.Night{Machines: []night.Machine{{Down: []api.Span{}}}, Jobs: []night.Job{{Machines: []int{0}, Length: 5, To: 9, After: []int{}}}}
	expectPlan(t, "empty lists", n, places(0, 0)...)
	if plan, moved, e := night.Again(n, places(0, 3), []night.Event{}, 4); moved != 0 || e != api.OK || !slices.Equal(plan, places(0, 3)) {
		t.Error(plan, moved, e)
	}
	none := night.Night{Machines: []night.Machine{{}}, Jobs: []night.Job{}}
	for _, plan := range [][]night.Place{nil, {}} {
		if end, e := night.Right(none, plan); end != 0 || e != api.OK {
			t.Error(end, e)
		}
		if is, e := night.Least(none, plan); !is || e != api.OK {
			t.Error(is, e)
		}
	}
}

// wild returns a number that is mostly near a limit.
func wild(rnd *rand.Rand) int {
	limits := []int{0, 0, 1, 2, 3, 6, 8, 10, 20, 600, 1440, 60000, math.MaxInt, math.MinInt, math.MaxInt - 600}
	return limits[rnd.Intn(len(limits))]*(1-2*rnd.Intn(2)) + rnd.Intn(3) - 1
}

// mostly returns a number that is allowed, and now and then one that need not be.
func mostly(rnd *rand.Rand, n int) int {
	if rnd.Intn(80) == 0 {
		return wild(rnd)
	}
	return n
}

func mostlyAll(rnd *rand.Rand, l []int) {
	for i := range l {
		l[i] = mostly(rnd, l[i])
	}
}

func wildNight(rnd *rand.Rand) night.Night {
	n := anyNight(rnd, 1+rnd.Intn(4), rnd.Intn(5), 15+rnd.Intn(30))
	for i := range n.Machines {
		m := &n.Machines[i]
		m.Works = mostly(rnd, m.Works)
		for k := range m.Down {
			m.Down[k] = api.Span{Lo: mostly(rnd, m.Down[k].Lo), Hi: mostly(rnd, m.Down[k].Hi)}
		}
	}
	for i := range n.Jobs {
		j := &n.Jobs[i]
		j.Length, j.From, j.To = mostly(rnd, j.Length), mostly(rnd, j.From), mostly(rnd, j.To)
		mostlyAll(rnd, j.Machines)
		mostlyAll(rnd, j.After)
	}
	n.Transfer = mostly(rnd, n.Transfer)
	return n
}

// expectNothing checks that with an error there is no other result, and returns 1 if there is none.
func expectNothing(t *testing.T, e api.Errno, nothing bool) int {
	t.Helper()
	if e == api.OK {
		return 1
	}
	if !nothing {
		t.Error(e)
	}
	return 0
}

// R2, P8: no function of plans panics, and with an error there is no other result.
func TestWildPlans(t *testing.T) {
	rnd := rand.New(rand.NewSource(22))
	right := 0
	for range 5000 {
		n := wildNight(rnd)
		plan, e := night.Plan(n)
		right += expectNothing(t, e, plan == nil)
		for i := range n.Jobs {
			if e != api.OK {
				plan = append(plan, night.Place{Begin: n.Jobs[i].From})
			}
			plan[i] = night.Place{Machine: mostly(rnd, plan[i].Machine), Begin: mostly(rnd, plan[i].Begin)}
		}
		var events []night.Event
		for _, x := range anyEvents(rnd, n, rnd.Intn(4), 15) {
			events = append(events, night.Event{Kind: mostly(rnd, x.Kind), A: mostly(rnd, x.A), At: mostly(rnd, x.At), Until: mostly(rnd, x.Until)})
		}
		end, e := night.Right(n, plan)
		right += expectNothing(t, e, end == 0)
		is, e := night.Least(n, plan)
		right += expectNothing(t, e, !is)
		minutes, e := night.Slack(n, plan, mostly(rnd, 0))
		right += expectNothing(t, e, minutes == 0)
		after, e := night.Change(n, plan, events)
		right += expectNothing(t, e, isNoNight(after))
		again, moved, e := night.Again(n, plan, events, mostly(rnd, 7))
		right += expectNothing(t, e, again == nil && moved == 0)
	}
	if right < 5000 {
		t.Error("not enough", right)
	}
}

// R2, P8: no function of proofs panics, and with an error there is no other result.
func TestWildProofs(t *testing.T) {
	rnd := rand.New(rand.NewSource(23))
	right := 0
	for range 5000 {
		n := wildNight(rnd)
		proof, e := night.Why(n)
		right += expectNothing(t, e, proof == nil)
		if e != api.OK {
			proof = []night.Node{choose(0, 1), choose(1, 2), order(0, 1, 3, 4), beyond(0), beyond(1)}
		}
		for i, x := range proof {
			proof[i] = night.Node{Kind: mostly(rnd, x.Kind), A: mostly(rnd, x.A), B: mostly(rnd, x.B), First: mostly(rnd, x.First), Second: mostly(rnd, x.Second)}
		}
		is, e := night.Proves(n, proof)
		right += expectNothing(t, e, !is)
		on := slices.Repeat([]int{-1}, len(n.Jobs))
		mostlyAll(rnd, on)
		l, e := night.Windows(n, on)
		right += expectNothing(t, e, l == nil)
	}
	if right < 5000 {
		t.Error("not enough", right)
	}
}
