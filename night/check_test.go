package night_test

import (
	"math"
	"math/rand"
	"slices"
	"testing"

	"foldhouse/api"
	"foldhouse/night"
)

// nightCase is a night with an error, or without one.
type nightCase struct {
	name string
	n    night.Night
	want api.Errno
}

// around returns cases for a number that may be from lo to hi.
func around(name string, want api.Errno, lo, hi int, set func(n *night.Night, x int)) []nightCase {
	var l []nightCase
	for _, x := range []int{lo, (lo + hi) / 2, hi} {
		l = append(l, nightCase{name, changed(func(n *night.Night) { set(n, x) }), api.OK})
	}
	for _, x := range []int{math.MinInt, lo - 1, hi + 1, math.MaxInt} {
		l = append(l, nightCase{name, changed(func(n *night.Night) { set(n, x) }), want})
	}
	return l
}

// machines returns a night of so many machines and jobs.
func machines(count, jobs int) night.Night {
	n := night.Night{Machines: make([]night.Machine, count)}
	for range jobs {
		n.Jobs = append(n.Jobs, night.Job{Machines: []int{0}, Length: 1, To: 1440})
	}
	return n
}

// down returns example 1 with a machine that does not work from each Lo to its Hi.
func down(l ...int) night.Night {
	return changed(func(n *night.Night) {
		for i := 0; i < len(l); i += 2 {
			n.Machines[1].Down = append(n.Machines[1].Down, api.Span{Lo: l[i], Hi: l[i+1]})
		}
	})
}

// pieces returns so many numbers of intervals of one minute, every other minute.
func pieces(count int) []int {
	var l []int
	for i := range count {
		l = append(l, 2*i, 2*i)
	}
	return l
}

// withJob returns a night of 5 machines with 3 jobs, of which the last one is changed.
func withJob(change func(j *night.Job)) night.Night {
	n := machines(5, 3)
	change(&n.Jobs[2])
	return n
}

func rangeCases() []nightCase {
	last := func(n *night.Night) *night.Job { return &n.Jobs[2] }
	return slices.Concat(
		around("Transfer", api.ErrRange, 0, 600, func(n *night.Night, x int) { n.Transfer = x }),
		around("Works", api.ErrArg, 0, 1, func(n *night.Night, x int) { n.Machines[1].Works = x }),
		around("Lo", api.ErrArg, 0, 50, func(n *night.Night, x int) { n.Machines[1].Down = []api.Span{{Lo: x, Hi: 50}} }),
		around("Hi", api.ErrArg, 50, 1439, func(n *night.Night, x int) { n.Machines[1].Down = []api.Span{{Lo: 50, Hi: x}} }),
		around("a second Lo", api.ErrArg, 22, 50, func(n *night.Night, x int) {
			n.Machines[1].Down = []api.Span{{Lo: 10, Hi: 20}, {Lo: x, Hi: 50}}
		}),
		around("Length", api.ErrNight, 1, 600, func(n *night.Night, x int) { last(n).Length, last(n).To = x, 1440 }),
		around("Length until To", api.ErrNight, 1, 140, func(n *night.Night, x int) { last(n).Length = x }),
		around("From", api.ErrNight, 0, 80, func(n *night.Night, x int) { last(n).From = x }),
		around("To", api.ErrNight, 60, 1440, func(n *night.Night, x int) { last(n).To = x }),
		around("a machine", api.ErrNight, 0, 1, func(n *night.Night, x int) { last(n).Machines = []int{x} }),
		around("After", api.ErrNight, 0, 1, func(n *night.Night, x int) { last(n).After = []int{x} }),
	)
}

func listCases() []nightCase {
	return []nightCase{
		{"zero night", night.Night{}, api.ErrMany},
		{"no machines", night.Night{Machines: []night.Machine{}}, api.ErrMany},
		{"one machine", machines(1, 0), api.OK},
		{"8 machines", machines(8, 0), api.OK},
		{"9 machines", machines(9, 0), api.ErrMany},
		{"6 jobs", machines(1, 6), api.OK},
		{"7 jobs", machines(1, 7), api.ErrMany},
		{"example 1", example(), api.OK},
		{"10 intervals", down(pieces(10)...), api.OK},
		{"11 intervals", down(pieces(11)...), api.ErrArg},
		{"all intervals", down(0, 1439), api.OK},
		{"overlapping intervals", down(1, 5, 5, 9), api.ErrArg},
		{"equal intervals", down(1, 5, 1, 5), api.ErrArg},
		{"intervals not in order", down(10, 15, 1, 5), api.ErrArg},
		{"an interval up to the greatest number", down(1, math.MaxInt, 3, 4), api.ErrArg},
		{"no machines of a job", withJob(func(j *night.Job) { j.Machines = nil }), api.ErrNight},
		{"empty machines of a job", withJob(func(j *night.Job) { j.Machines = []int{} }), api.ErrNight},
		{"3 machines of a job", withJob(func(j *night.Job) { j.Machines = []int{0, 2, 4} }), api.OK},
		{"4 machines of a job", withJob(func(j *night.Job) { j.Machines = []int{0, 1, 2, 4} }), api.ErrNight},
		{"machines not in order", withJob(func(j *night.Job) { j.Machines = []int{0, 4, 2} }), api.ErrNight},
		{"a machine twice", withJob(func(j *night.Job) { j.Machines = []int{2, 2} }), api.ErrNight},
		{"a machine beyond", withJob(func(j *night.Job) { j.Machines = []int{0, 5} }), api.ErrNight},
		{"after two", withJob(func(j *night.Job) { j.After = []int{0, 1} }), api.OK},
		{"after none", withJob(func(j *night.Job) { j.After = []int{} }), api.OK},
		{"after itself", withJob(func(j *night.Job) { j.After = []int{0, 1, 2} }), api.ErrNight},
		{"after two not in order", withJob(func(j *night.Job) { j.After = []int{1, 0} }), api.ErrNight},
		{"after one twice", withJob(func(j *night.Job) { j.After = []int{1, 1} }), api.ErrNight},
		{"after one behind", changed(func(n *night.Night) { n.Jobs[0].After = []int{1} }), api.ErrNight},
		{"From and Length that wrap", withJob(func(j *night.Job) { j.From, j.To, j.Length = math.MaxInt, math.MinInt, 1 }), api.ErrNight},
		{"To and Length that wrap", withJob(func(j *night.Job) { j.From, j.To = 5, math.MinInt }), api.ErrNight},
	}
}

func orderCases() []nightCase {
	badMachine := func(n *night.Night) { n.Machines[1].Works = 2 }
	badJob := func(n *night.Night) { n.Jobs[0].Length = 0 }
	return []nightCase{
		{"machines before Transfer", changed(func(n *night.Night) { n.Machines, n.Transfer = nil, 601 }), api.ErrMany},
		{"jobs before Transfer", changed(func(n *night.Night) { n.Jobs, n.Transfer = make([]night.Job, 7), 601 }), api.ErrMany},
		{"jobs before a machine", changed(func(n *night.Night) { n.Jobs = make([]night.Job, 7); badMachine(n) }), api.ErrMany},
		{"Transfer before a machine", changed(func(n *night.Night) { n.Transfer = -1; badMachine(n) }), api.ErrRange},
		{"Transfer before a job", changed(func(n *night.Night) { n.Transfer = -1; badJob(n) }), api.ErrRange},
		{"a machine before a job", changed(func(n *night.Night) { badMachine(n); badJob(n) }), api.ErrArg},
	}
}

// P12.1: what is wrong with a night, and that no other function takes such a night.
func TestCheck(t *testing.T) {
	for _, c := range slices.Concat(rangeCases(), listCases(), orderCases()) {
		if e := night.Check(c.n); e != c.want {
			t.Error(c.name, e, c.want)
		}
		if c.want == api.OK {
			continue
		}
		for name, e := range errorsOf(c.n) {
			if e != c.want {
				t.Error(c.name, name, e, c.want)
			}
		}
	}
}

// errorsOf returns the errors of all functions for a night, all their other arguments being wrong, too.
func errorsOf(n night.Night) map[string]api.Errno {
	wrong := places(9, -1, 9, -1)
	events := make([]night.Event, 21)
	l := map[string]api.Errno{}
	_, l["Right"] = night.Right(n, wrong)
	_, l["Plan"] = night.Plan(n)
	_, l["Least"] = night.Least(n, wrong)
	_, l["Windows"] = night.Windows(n, []int{-2})
	_, l["Why"] = night.Why(n)
	_, l["Proves"] = night.Proves(n, make([]night.Node, 60001))
	_, l["Change"] = night.Change(n, wrong, events)
	_, _, l["Again"] = night.Again(n, wrong, events, -1)
	_, l["Slack"] = night.Slack(n, wrong, -1)
	return l
}

// rightCase is a plan with an error, or with its end.
type rightCase struct {
	name string
	n    night.Night
	plan []night.Place
	end  int
	e    api.Errno
}

func rightCases() []rightCase {
	works := changed(func(n *night.Night) { n.Jobs[0].Machines, n.Jobs[1].From = []int{0, 1}, 30 })
	downAt := down(110, 120)
	return []rightCase{
		{"the least plan", example(), least(), 110, api.OK},
		{"the last job is not the last one in the list", machines(3, 2), places(0, 9, 0, 3), 10, api.OK},
		{"no jobs", machines(1, 0), nil, 0, api.OK},
		{"empty plan", machines(1, 0), []night.Place{}, 0, api.OK},
		{"no plan", example(), nil, 0, api.ErrArg},
		{"a place too few", example(), least()[:2], 0, api.ErrArg},
		{"a place too many", example(), append(least(), night.Place{}), 0, api.ErrArg},
		{"a place without a job", machines(1, 0), places(0, 0), 0, api.ErrArg},
		{"a machine of others", example(), places(1, 0, 0, 20, 1, 50), 0, api.ErrNight},
		{"no machine", example(), places(0, 0, -1, 20, 1, 50), 0, api.ErrNight},
		{"a machine that there is not", example(), places(0, 0, 2, 20, 1, 50), 0, api.ErrNight},
		{"the greatest machine", example(), places(0, 0, math.MaxInt, 20, 1, 50), 0, api.ErrNight},
		{"before From", works, places(0, 0, 0, 29, 1, 80), 0, api.ErrTime},
		{"at From", works, places(0, 0, 0, 30, 1, 80), 140, api.OK},
		{"up to To", example(), places(0, 0, 0, 40, 1, 80), 140, api.OK},
		{"beyond To", example(), places(0, 0, 0, 41, 1, 80), 0, api.ErrTime},
		{"the last beyond To", example(), places(0, 0, 0, 40, 1, 81), 0, api.ErrTime},
		{"the greatest minute", example(), places(0, math.MaxInt, 0, 40, 1, 80), 0, api.ErrTime},
		{"the least minute", example(), places(0, math.MinInt, 0, 40, 1, 80), 0, api.ErrTime},
		{"a job in the one it is after", example(), places(0, 0, 0, 19, 1, 80), 0, api.ErrTime},
		{"other works too early", example(), places(0, 0, 0, 20, 1, 49), 0, api.ErrTime},
		{"the same works 1", works, places(1, 0, 1, 30, 0, 50), 110, api.OK},
		{"other works 0 too early", works, places(1, 0, 1, 30, 0, 49), 0, api.ErrTime},
		{"another machine of the same works", changed(func(n *night.Night) { n.Machines[1].Works = 0 }), places(0, 0, 0, 20, 1, 20), 80, api.OK},
		{"up to Down", downAt, least(), 110, api.OK},
		{"into Down", downAt, places(0, 0, 0, 20, 1, 51), 0, api.ErrState},
		{"from Down", down(0, 50), places(0, 0, 0, 20, 1, 50), 0, api.ErrState},
		{"behind Down", down(0, 49), places(0, 0, 0, 20, 1, 50), 110, api.OK},
		{"around Down", down(70, 70), places(0, 0, 0, 20, 1, 50), 0, api.ErrState},
		{"Down of another machine", down(0, 20), places(0, 0, 0, 20, 1, 50), 110, api.OK},
		{"two jobs in one minute", example(), places(0, 0, 0, 20, 0, 79), 0, api.ErrState},
		{"one job behind the other", example(), places(0, 0, 0, 20, 0, 80), 140, api.OK},
	}
}

func orderOfRight() []rightCase {
	return []rightCase{
		{"a machine before its time", example(), places(0, 0, 2, -1, 1, 50), 0, api.ErrNight},
		{"a time before its state", down(0, 200), places(0, 0, 1, 0, 1, 50), 0, api.ErrTime},
		{"the state of one job before the machine of the next", changed(func(n *night.Night) { n.Machines[0].Down = []api.Span{{Lo: 30, Hi: 30}} }), places(0, 0, 0, 20, 2, 50), 0, api.ErrState},
		{"the time of one job before the machine of the next", example(), places(0, -1, 2, 50, 2, 50), 0, api.ErrTime},
		{"the first error in one minute is that of the second job", example(), places(0, 0, 0, 20, 0, 20), 0, api.ErrState},
		{"their number before places", example(), places(9, 9), 0, api.ErrArg},
	}
}

// P12.1: right plans and their ends; P12.2, P12.4: the errors of Right come first.
func TestRight(t *testing.T) {
	for _, c := range append(rightCases(), orderOfRight()...) {
		if end, e := night.Right(c.n, c.plan); end != c.end || e != c.e {
			t.Error(c.name, end, e, c.end, c.e)
		}
		if c.e == api.OK {
			continue
		}
		if is, e := night.Least(c.n, c.plan); is || e != c.e {
			t.Error(c.name, "Least", is, e)
		}
		if l, moved, e := night.Again(c.n, c.plan, make([]night.Event, 21), -1); l != nil || moved != 0 || e != c.e {
			t.Error(c.name, "Again", l, moved, e)
		}
		if minutes, e := night.Slack(c.n, c.plan, -1); minutes != 0 || e != c.e {
			t.Error(c.name, "Slack", minutes, e)
		}
	}
}

// P12.1: any plan has the error that the chapter's words, minute by minute, find in it.
func TestAnyRight(t *testing.T) {
	rnd := rand.New(rand.NewSource(1))
	met := map[api.Errno]int{}
	for range 20000 {
		n := anyNight(rnd, 1+rnd.Intn(4), 1+rnd.Intn(6), 12+rnd.Intn(40))
		plan, e := night.Plan(n)
		if e != api.OK {
			continue
		}
		for range rnd.Intn(3) {
			p := &plan[rnd.Intn(len(plan))]
			p.Begin += rnd.Intn(9) - 3
			if rnd.Intn(4) == 0 {
				p.Machine = rnd.Intn(len(n.Machines))
			}
		}
		want := planError(n, plan)
		last, _ := lastAndSum(n, plan)
		if want != api.OK {
			last = 0
		}
		if end, e := night.Right(n, plan); end != last || e != want {
			t.Error(n, plan, end, e, last, want)
		}
		met[want]++
	}
	for _, e := range []api.Errno{api.OK, api.ErrNight, api.ErrTime, api.ErrState} {
		if met[e] < 200 {
			t.Error("not enough", e, met)
		}
	}
}
