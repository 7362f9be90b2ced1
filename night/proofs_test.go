package night_test

import (
	"math"
	"math/rand"
	"slices"
	"testing"

	"foldhouse/api"
	"foldhouse/night"
)

func expectWindows(t *testing.T, n night.Night, on []int, e api.Errno, want ...int) {
	t.Helper()
	if l, f := night.Windows(n, on); f != e || !slices.Equal(l, want) {
		t.Error(n, on, l, f)
	}
}

// P12.3: the least beginnings of some decisions, and decisions that there are not.
func TestWindows(t *testing.T) {
	n := example()
	expectWindows(t, n, []int{-1, -1, -1}, api.OK, 0, 20, 20)
	expectWindows(t, n, []int{0, -1, -1}, api.OK, 0, 20, 20)
	expectWindows(t, n, []int{-1, -1, 1}, api.OK, 0, 20, 20)
	expectWindows(t, n, []int{0, 0, 1}, api.OK, 0, 20, 50)
	expectWindows(t, n, []int{0, 1, 1}, api.OK, 0, 50, 50)
	expectWindows(t, down(0, 200), []int{0, 0, 1}, api.OK, 0, 20, 201)
	expectWindows(t, down(0, 200), []int{0, 0, -1}, api.OK, 0, 20, 20)
	expectWindows(t, down(0, 55, 70, 90, 150, 160), []int{0, 0, 1}, api.OK, 0, 20, 161)
	expectWindows(t, machines(1, 0), nil, api.OK)
	expectWindows(t, machines(1, 0), []int{}, api.OK)
	for _, on := range [][]int{nil, {0}, {0, 0}, {0, 0, 0, 0}, {1, 0, 0}, {0, 0, 2}, {0, 0, -2}, {0, math.MinInt, 0}, {math.MaxInt, 0, 0}} {
		expectWindows(t, n, on, api.ErrArg)
	}
	expectWindows(t, machines(1, 0), []int{-1}, api.ErrArg)
}

// P12.3: jobs that would end after MaxTime have no beginning, and those after them have none.
func TestWindowsNever(t *testing.T) {
	n := machines(2, 4)
	for i := range n.Jobs {
		n.Jobs[i].Machines = []int{0, 1}
	}
	n.Jobs[0].Length = 600
	n.Jobs[1] = night.Job{Machines: []int{0, 1}, Length: 240, From: 1200, To: 1440}
	n.Jobs[2].After, n.Jobs[3].After = []int{0, 1}, []int{2}
	n.Machines[1].Works, n.Transfer = 1, 240
	expectWindows(t, n, []int{-1, -1, -1, -1}, api.OK, 0, 1200, -1, -1)
	n.Jobs[1].Length = 239
	expectWindows(t, n, []int{-1, -1, -1, -1}, api.OK, 0, 1200, 1439, -1)
	expectWindows(t, n, []int{-1, 0, 1, -1}, api.OK, 0, 1200, -1, -1)
	expectWindows(t, n, []int{1, 0, 0, -1}, api.OK, 0, 1200, 1439, -1)
	n.Machines[0].Down = []api.Span{{Lo: 600, Hi: 1300}}
	expectWindows(t, n, []int{0, 0, -1, -1}, api.OK, 0, -1, -1, -1)
	n.Machines[0].Down[0].Hi = 1200
	expectWindows(t, n, []int{0, 0, -1, -1}, api.OK, 0, 1201, -1, -1)
	n.Machines[0].Down[0].Lo = 599
	expectWindows(t, n, []int{0, 0, -1, -1}, api.OK, -1, 1201, -1, -1)
	expectWindows(t, n, []int{-1, 0, -1, -1}, api.OK, 0, 1201, -1, -1)
	n.Jobs[1].Length = 238
	expectWindows(t, n, []int{-1, 0, -1, -1}, api.OK, 0, 1201, 1439, -1)
}

// P12.3: a job that ends just at MaxTime, and one that would end a minute later.
func TestWindowsAtTheEnd(t *testing.T) {
	n := machines(1, 3)
	n.Jobs[0].Length, n.Jobs[1].Length = 600, 600
	n.Jobs[1].After, n.Jobs[2].After = []int{0}, []int{1}
	for length, last := range map[int]int{239: 1200, 240: 1200, 241: -1, 242: -1} {
		n.Jobs[2].Length = length
		expectWindows(t, n, []int{-1, -1, -1}, api.OK, 0, 600, last)
		expectWindows(t, n, []int{0, 0, 0}, api.OK, 0, 600, last)
	}
}

// anyOn decides the machines of some jobs.
func anyOn(rnd *rand.Rand, n night.Night) []int {
	var on []int
	for _, j := range n.Jobs {
		m := -1
		if rnd.Intn(3) > 0 {
			m = j.Machines[rnd.Intn(len(j.Machines))]
		}
		on = append(on, m)
	}
	return on
}

// P12.3: windows are what follows over and over; P12.5: no job of a right plan begins before its window.
func TestAnyWindows(t *testing.T) {
	rnd := rand.New(rand.NewSource(6))
	never, begins, plans := 0, 0, 0
	for range 3000 {
		end := []int{20, 100, 1440}[rnd.Intn(3)]
		n := anyNight(rnd, 1+rnd.Intn(4), rnd.Intn(7), end)
		for i := range n.Jobs {
			n.Jobs[i].Length = min(n.Jobs[i].Length, 600)
		}
		n.Transfer = min(n.Transfer, 600)
		on := anyOn(rnd, n)
		want := modelWindows(n, on, nil)
		expectWindows(t, n, on, api.OK, want...)
		for _, begin := range want {
			if begin == -1 {
				never++
			} else {
				begins++
			}
		}
		plan, e := night.Plan(n)
		if e != api.OK {
			continue
		}
		plans++
		for i, p := range plan {
			if on[i] != -1 {
				on[i] = p.Machine
			}
		}
		l, _ := night.Windows(n, on)
		for i, p := range plan {
			if l[i] == -1 || p.Begin < l[i] {
				t.Error(n, plan, l)
			}
		}
	}
	if never < 200 || begins < 2000 || plans < 500 {
		t.Error("not enough", never, begins, plans)
	}
}

func expectProves(t *testing.T, name string, n night.Night, proof []night.Node, want bool) {
	t.Helper()
	if is, e := night.Proves(n, proof); is != want || e != api.OK {
		t.Error(name, proof, is, e)
	}
	if model := modelProves(n, proof); model != want {
		t.Error(name, "model", proof, model)
	}
}

func choose(job, first int) night.Node { return night.Node{Kind: night.Choose, A: job, First: first} }

func order(a, b, first, second int) night.Node {
	return night.Node{Kind: night.Order, A: a, B: b, First: first, Second: second}
}

func beyond(job int) night.Node { return night.Node{Kind: night.Beyond, A: job} }

// byHand is a proof that example 2 of the chapter has no right plan.
func byHand() []night.Node {
	return []night.Node{choose(0, 1), choose(1, 2), choose(2, 4), beyond(1), order(1, 2, 6, 7), beyond(2), beyond(2), beyond(1)}
}

// P12.3: proofs, and lists that are none.
func TestProves(t *testing.T) {
	n := impossible()
	expectProves(t, "by hand", n, byHand(), true)
	expectProves(t, "a night with a plan", example(), byHand(), false)
	expectProves(t, "nil", n, nil, false)
	expectProves(t, "empty", n, []night.Node{}, false)
	expectProves(t, "no jobs", machines(1, 0), []night.Node{beyond(0)}, false)
	for i := range byHand() {
		expectProves(t, "too few", n, byHand()[:i], false)
	}
	expectProves(t, "a node that belongs to none", n, append(byHand(), beyond(1)), false)
	for _, c := range []struct {
		name   string
		number int
		node   night.Node
		want   bool
	}{
		{"numbers that do not matter", 3, night.Node{Kind: night.Beyond, A: 1, B: -1, First: -1, Second: 99}, true},
		{"a second node that does not matter", 0, night.Node{Kind: night.Choose, B: 9, First: 1, Second: 1}, true},
		{"the other way round", 4, order(2, 1, 7, 6), true},
		{"the nodes of the other order", 4, order(1, 2, 7, 6), false},
		{"twice the same node", 4, order(1, 2, 6, 6), false},
		{"a node of another one", 4, order(1, 2, 5, 6), false},
		{"a node beyond the list", 4, order(1, 2, 6, 8), false},
		{"the greatest node", 4, order(1, 2, 6, math.MaxInt), false},
		{"the least node", 4, order(1, 2, math.MinInt, 7), false},
		{"itself", 4, order(1, 2, 4, 7), false},
		{"the node before it", 4, order(1, 2, 3, 7), false},
		{"a job before itself", 4, order(1, 1, 6, 7), false},
		{"jobs on different machines", 3, order(1, 2, 6, 7), false},
		{"jobs whose machines are not decided", 1, order(1, 2, 2, 3), false},
		{"no job A", 4, order(3, 2, 6, 7), false},
		{"no job B", 4, order(1, 3, 6, 7), false},
		{"job B below 0", 4, order(1, -1, 6, 7), false},
		{"a job that is not beyond", 6, beyond(1), false},
		{"a job that is beyond elsewhere", 3, beyond(2), false},
		{"beyond without a job", 6, beyond(3), false},
		{"beyond with a job below 0", 6, beyond(-1), false},
		{"a choice that was made", 1, choose(0, 2), false},
		{"a choice of no job", 1, choose(3, 2), false},
		{"a choice of a job below 0", 1, choose(-1, 2), false},
		{"a choice that leads back", 1, choose(1, 1), false},
		{"a choice that leads to the first node", 0, choose(0, 0), false},
		{"a choice that leads beyond", 1, choose(1, 7), false},
		{"a choice that leads to the greatest node", 1, choose(1, math.MaxInt), false},
		{"Kind 0", 6, night.Node{A: 2}, false},
		{"Kind 4", 6, night.Node{Kind: 4, A: 2}, false},
		{"Kind -1", 6, night.Node{Kind: -1, A: 2}, false},
	} {
		proof := byHand()
		proof[c.number] = c.node
		expectProves(t, c.name, n, proof, c.want)
	}
}

// P12.3: what a proof may say, though there are shorter ones.
func TestLongProofs(t *testing.T) {
	n := impossible()
	again := append(byHand(), beyond(2), beyond(2))
	again[6] = order(1, 2, 8, 9)
	expectProves(t, "an order that was decided", n, again, true)
	again[9] = beyond(0)
	expectProves(t, "a job that comes before a circle", n, again, false)
	again[9] = beyond(1)
	expectProves(t, "jobs before one another", n, again, true)
	circle := machines(1, 3)
	circle.Jobs[1].After, circle.Jobs[2].After = []int{0}, []int{0}
	circle.Jobs[2].Length, circle.Jobs[2].To = 2, 2
	expectProves(t, "an order against After", circle, []night.Node{
		choose(0, 1), choose(1, 2), order(1, 0, 3, 4), beyond(1), beyond(2),
	}, true)
	expectProves(t, "a job behind one without a beginning", circle, []night.Node{
		choose(0, 1), choose(1, 2), order(1, 0, 3, 4), beyond(2), beyond(2),
	}, true)
	single := machines(1, 1)
	single.Machines[0].Down = []api.Span{{Lo: 0, Hi: 1439}}
	expectProves(t, "no beginning", single, []night.Node{choose(0, 1), beyond(0)}, true)
	expectProves(t, "a beginning without a machine", single, []night.Node{beyond(0)}, false)
}

// chain returns a proof for example 2 that decides one order again and again.
func chain(nodes int) []night.Node {
	l := byHand()
	for len(l) < nodes {
		last := len(l) - 1
		job := l[last].A
		l[last] = order(2, 1, last+1, last+2)
		l = append(l, beyond(job), beyond(job))
	}
	return l
}

// P12.3: ErrMany for more than 60000 nodes, whatever they are.
func TestProvesMany(t *testing.T) {
	n := impossible()
	long := chain(60000)
	if is, e := night.Proves(n, long); len(long) != 60000 || !is || e != api.OK {
		t.Error(len(long), is, e)
	}
	for _, l := range [][]night.Node{append(long, beyond(1)), make([]night.Node, 60001), make([]night.Node, 100000)} {
		if is, e := night.Proves(n, l); is || e != api.ErrMany {
			t.Error(len(l), is, e)
		}
	}
	if is, e := night.Proves(n, make([]night.Node, 60000)); is || e != api.OK {
		t.Error(is, e)
	}
}

// expectWhy checks that the proof of a night is one, and returns it.
func expectWhy(t *testing.T, name string, n night.Night) []night.Node {
	t.Helper()
	proof, e := night.Why(n)
	if e != api.OK || len(proof) > night.MaxNodes {
		t.Error(name, n, len(proof), e)
	}
	expectProves(t, name, n, proof, true)
	return proof
}

// P12.3: why there is no right plan, and ErrState if there is one.
func TestWhy(t *testing.T) {
	proof := expectWhy(t, "example 2", impossible())
	kinds := map[int]int{}
	for _, x := range proof {
		kinds[x.Kind]++
	}
	if kinds[night.Choose] == 0 || kinds[night.Order] != 1 || kinds[night.Beyond] == 0 {
		t.Error(proof)
	}
	late := example()
	late.Jobs[1].To = 79
	expectWhy(t, "late without decisions", late)
	for _, n := range []night.Night{example(), machines(1, 0), machines(8, 6), down(0, 200)} {
		if l, e := night.Why(n); l != nil || e != api.ErrState {
			t.Error(n, l, e)
		}
	}
}

// P12.3, P12.5: there is a plan, or a proof that there is none.
func TestAnyWhy(t *testing.T) {
	rnd := rand.New(rand.NewSource(7))
	plans, proofs := 0, 0
	for i := range 4000 {
		n := anySmallNight(rnd)
		if i%2 == 0 {
			n = anyNight(rnd, 1+rnd.Intn(4), 4+rnd.Intn(3), 15+rnd.Intn(40))
		}
		if plan, e := night.Plan(n); e == api.OK {
			plans++
			if planError(n, plan) != api.OK {
				t.Error(n, plan)
			}
			if l, e := night.Why(n); l != nil || e != api.ErrState {
				t.Error(n, l, e)
			}
			continue
		}
		proofs++
		expectWhy(t, "any night", n)
	}
	if plans < 500 || proofs < 500 {
		t.Error("not enough", plans, proofs)
	}
}

// hard returns a night with 6 jobs that may be on 3 machines, and hardly fit.
func hard(rnd *rand.Rand) night.Night {
	n := machines(3, 6)
	for i := range n.Machines {
		n.Machines[i].Down = anyDown(rnd, 1+rnd.Intn(4), 300)
	}
	for i := range n.Jobs {
		n.Jobs[i] = night.Job{Machines: []int{0, 1, 2}, Length: 40 + rnd.Intn(60), To: 300}
	}
	return n
}

// P12.3: proofs of nights with the most decisions keep to the limit.
func TestWhyOfManyDecisions(t *testing.T) {
	rnd := rand.New(rand.NewSource(8))
	most := 0
	for range 300 {
		n := hard(rnd)
		if _, e := night.Plan(n); e == api.ErrNone {
			most = max(most, len(expectWhy(t, "hard", n)))
		}
	}
	if most < 1000 {
		t.Error("not enough", most)
	}
}

// anyProof returns a proof that is made by chance, if it comes to no decisions that are a plan.
func anyProof(rnd *rand.Rand, n night.Night) ([]night.Node, bool) {
	proof := make([]night.Node, 1)
	var grow func(i int, d modelDecisions) bool
	grow = func(i int, d modelDecisions) bool {
		late := areBeyond(n, d)
		var next []night.Node
		for a := range d.on {
			if d.on[a] == -1 {
				next = append(next, choose(a, 0))
			}
			for b := range d.on {
				isNew := !slices.Contains(d.before, [2]int{a, b}) && !slices.Contains(d.before, [2]int{b, a})
				if a != b && d.on[a] != -1 && d.on[a] == d.on[b] && (isNew || rnd.Intn(30) == 0) {
					next = append(next, order(a, b, 0, 0))
				}
			}
		}
		if len(late) > 0 && (len(next) == 0 || rnd.Intn(3) > 0) {
			proof[i] = beyond(late[rnd.Intn(len(late))])
			return true
		}
		if len(next) == 0 || len(proof) > 2000 {
			return false
		}
		x := next[rnd.Intn(len(next))]
		x.First = len(proof) + rnd.Intn(2)
		var children []modelDecisions
		if x.Kind == night.Choose {
			x.First = len(proof)
			for _, m := range n.Jobs[x.A].Machines {
				children = append(children, d.choose(x.A, m))
			}
		} else {
			x.Second = 2*len(proof) + 1 - x.First
			children = append(children, d.order(x.A, x.B), d.order(x.B, x.A))
			if x.Second < x.First {
				slices.Reverse(children)
			}
		}
		proof[i] = x
		first := len(proof)
		proof = append(proof, make([]night.Node, len(children))...)
		for _, k := range rnd.Perm(len(children)) {
			if !grow(first+k, children[k]) {
				return false
			}
		}
		return true
	}
	found := grow(0, nothingDecided(n))
	return proof, found
}

// spoil changes a proof in a way that may make it wrong.
func spoil(rnd *rand.Rand, proof []night.Node) []night.Node {
	l := slices.Clone(proof)
	x := &l[rnd.Intn(len(l))]
	switch rnd.Intn(8) {
	case 0:
		x.Kind = rnd.Intn(5)
	case 1:
		x.A = rnd.Intn(6) - 1
	case 2:
		x.B = rnd.Intn(6) - 1
	case 3:
		x.First += rnd.Intn(5) - 2
	case 4:
		x.Second += rnd.Intn(5) - 2
	case 5:
		l = append(l, *x)
	case 6:
		l = l[:len(l)-1]
	case 7:
		*x = l[rnd.Intn(len(l))]
	}
	return l
}

// P12.3: any list is a proof if the chapter's words say so; P12.5: then there is no right plan.
func TestAnyProof(t *testing.T) {
	rnd := rand.New(rand.NewSource(9))
	made, right, wrong := 0, 0, 0
	for range 4000 {
		n := anyNight(rnd, 1+rnd.Intn(3), 1+rnd.Intn(4), 8+rnd.Intn(20))
		_, e := night.Plan(n)
		proof, is := anyProof(rnd, n)
		if is != (e == api.ErrNone) && len(proof) < 2000 {
			t.Error(n, proof, e)
		}
		if !is {
			continue
		}
		made++
		expectProves(t, "any proof", n, proof, true)
		for range 5 {
			l := spoil(rnd, proof)
			want := modelProves(n, l)
			expectProves(t, "a changed proof", n, l, want)
			if want {
				right++
			} else {
				wrong++
			}
		}
	}
	if made < 500 || right < 500 || wrong < 500 {
		t.Error("not enough", made, right, wrong)
	}
}

// P12.5: what proves one night proves no night that has a plan.
func TestProofsOfOthers(t *testing.T) {
	rnd := rand.New(rand.NewSource(10))
	plans := 0
	for range 4000 {
		n := anyNight(rnd, 1+rnd.Intn(3), 1+rnd.Intn(4), 8+rnd.Intn(20))
		proof, e := night.Why(n)
		if e != api.OK {
			continue
		}
		for range 5 {
			other := easier(rnd, n)
			is, _ := night.Proves(other, proof)
			if _, e := night.Plan(other); e == api.OK {
				plans++
				if is {
					t.Error(other, proof)
				}
			}
		}
	}
	if plans < 500 {
		t.Error("not enough", plans)
	}
}
