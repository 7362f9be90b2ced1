package mail_test

import (
	"math"
	"math/rand"
	"slices"
	"testing"

	"foldhouse/api"
	"foldhouse/mail"
)

// expectRun checks a flow, and what the hoppers have put in.
func expectRun(t *testing.T, l mail.Line, zones []int, faults []mail.Fault, want mail.Flow, counts ...[]int) {
	t.Helper()
	if f, e := mail.Run(l, zones, faults); e != api.OK || !sameFlow(f, want) {
		t.Errorf("%v %v %v: %+v %v, not %+v", l, zones, faults, f, e, want)
	}
	if c, e := mail.Counts(l, zones, faults); e != api.OK || !slices.EqualFunc(c, counts, slices.Equal) {
		t.Errorf("%v %v %v: %v %v, not %v", l, zones, faults, c, e, counts)
	}
}

// expectNoRun checks the error of a run.
func expectNoRun(t *testing.T, l mail.Line, zones []int, faults []mail.Fault, want api.Errno) {
	t.Helper()
	if f, e := mail.Run(l, zones, faults); e != want || !isNoFlow(f) {
		t.Error(f, e, want)
	}
	if c, e := mail.Counts(l, zones, faults); e != want || c != nil {
		t.Error(c, e, want)
	}
}

// right returns a right copy.
func right(number, zone int, parts ...int) mail.Copy {
	return mail.Copy{Number: number, Zone: zone, Parts: parts, Right: true}
}

// wrong returns a copy that is not right.
func wrong(number, zone int, parts ...int) mail.Copy {
	return mail.Copy{Number: number, Zone: zone, Parts: parts}
}

// P9.2: the chapter's example 1.
func TestRunExample(t *testing.T) {
	want := mail.Flow{
		Copies:   []mail.Copy{right(0, 0, 3, 5), right(1, 0, 3, 5), wrong(2, 0, 3), right(3, 0, 3, 5)},
		Thrown:   []int{4},
		Repaired: []int{1},
		Declared: []int{0},
	}
	expectRun(t, example(), []int{0, 0, 0, 0, 1}, []mail.Fault{miss(1, 0), miss(2, 1), double(4, 0)}, want, []int{2, 2}, []int{3, 1})
}

// P9.2: runs without copies, faults or parts.
func TestRunOfLittle(t *testing.T) {
	expectRun(t, example(), nil, nil, mail.Flow{})
	expectRun(t, example(), []int{}, []mail.Fault{}, mail.Flow{})
	expectRun(t, example(), []int{1}, nil, mail.Flow{Copies: []mail.Copy{right(0, 1, 3)}}, []int{1, 0})
	l := example()
	l.Zones = [][]int{nil}
	expectRun(t, l, []int{0, 0}, nil, mail.Flow{Copies: []mail.Copy{right(0, 0), right(1, 0)}}, []int{0, 0})
}

// P9.2: how batches end.
func TestRunBatches(t *testing.T) {
	for batch, counts := range map[int][][]int{
		1:    {{1, 1}, {1, 1}, {1, 1}, {1, 1}},
		2:    {{2, 2}, {2, 2}},
		3:    {{3, 3}, {1, 1}},
		4:    {{4, 4}},
		1000: {{4, 4}},
	} {
		l := example()
		l.Batch = batch
		zones := make([]int, 4)
		c, e := mail.Counts(l, zones, nil)
		if e != api.OK || !slices.EqualFunc(c, counts, slices.Equal) {
			t.Error(batch, c, e)
		}
		f := run(t, l, zones, []mail.Fault{miss(0, 1), double(3, 1)})
		declared := map[int][]int{1: {0, 3}, 2: {0, 1}, 3: {0, 1}}[batch]
		if !slices.Equal(f.Declared, declared) {
			t.Error(batch, f)
		}
	}
}

// P9.2: a fault of each kind at a hopper of each Watch.
func TestRunFaults(t *testing.T) {
	for _, x := range []struct {
		watch    int
		repair   []int
		isDouble bool
		want     mail.Flow
		count    int
	}{
		{0, []int{7}, false, mail.Flow{Copies: []mail.Copy{wrong(0, 0)}, Declared: []int{0}}, 0},
		{0, []int{7}, true, mail.Flow{Copies: []mail.Copy{wrong(0, 0, 7, 7)}, Declared: []int{0}}, 2},
		{1, []int{7}, false, mail.Flow{Copies: []mail.Copy{wrong(0, 0)}, Declared: []int{0}}, 0},
		{1, []int{7}, true, mail.Flow{Copies: []mail.Copy{wrong(0, 0, 7, 7)}, Declared: []int{0}}, 2},
		{2, []int{7}, false, mail.Flow{Copies: []mail.Copy{right(0, 0, 7)}, Repaired: []int{0}}, 0},
		{2, []int{6, 8}, false, mail.Flow{Thrown: []int{0}}, 0},
		{2, []int{7}, true, mail.Flow{Thrown: []int{0}}, 2},
	} {
		l := mail.Line{Hoppers: []mail.Hopper{{Part: 7, Watch: x.watch}}, Repair: x.repair, Batch: 9, Zones: [][]int{{7}}}
		expectRun(t, l, []int{0}, []mail.Fault{{Double: x.isDouble}}, x.want, []int{x.count})
	}
	// Without faults a hopper declares a batch just if nothing is known of it.
	for watch, declared := range [][]int{{0}, nil, nil} {
		l := mail.Line{Hoppers: []mail.Hopper{{Part: 7, Watch: watch}}, Batch: 9, Zones: [][]int{{7}}}
		expectRun(t, l, []int{0}, nil, mail.Flow{Copies: []mail.Copy{right(0, 0, 7)}, Declared: declared}, []int{1})
	}
}

// P9.2: a hopper of which nothing is known declares the batches in which it feeds a copy alone, thrown out or not.
func TestRunUnwatched(t *testing.T) {
	l := mail.Line{
		Hoppers: []mail.Hopper{{Part: 1, Watch: 2}, {Part: 2}, {Part: 1}},
		Batch:   2,
		Zones:   [][]int{{1}, {1, 2}},
	}
	want := mail.Flow{
		Copies:   []mail.Copy{right(0, 0, 1), right(1, 0, 1), right(2, 1, 1, 2), right(3, 0, 1), right(5, 0, 1)},
		Thrown:   []int{4},
		Declared: []int{1, 2},
	}
	expectRun(t, l, []int{0, 0, 1, 0, 1, 0}, []mail.Fault{double(4, 0)}, want, []int{2, 0, 0}, []int{2, 1, 0}, []int{3, 1, 0})
}

// P9.2: parts that are counted are those of copies that are thrown out, too, and a miss and a double are not seen.
func TestRunCounted(t *testing.T) {
	zones := []int{0, 0, 0, 0}
	want := mail.Flow{Copies: []mail.Copy{wrong(0, 0, 3), right(1, 0, 3, 5), wrong(2, 0, 3, 5, 5), right(3, 0, 3, 5)}}
	expectRun(t, example(), zones, []mail.Fault{double(2, 1), miss(0, 1)}, want, []int{3, 3}, []int{1, 1})
	want = mail.Flow{Copies: []mail.Copy{right(0, 0, 3, 5), right(1, 0, 3, 5), right(3, 0, 3, 5)}, Thrown: []int{2}, Declared: []int{0}}
	expectRun(t, example(), zones, []mail.Fault{double(2, 1), double(2, 0)}, want, []int{4, 4}, []int{1, 1})
	// A part that two hoppers feed is counted for the first one.
	l := example()
	l.Hoppers = append(l.Hoppers, mail.Hopper{Part: 5, Watch: 1})
	want = mail.Flow{Copies: []mail.Copy{right(0, 0, 3, 5)}}
	expectRun(t, l, []int{0}, nil, want, []int{1, 1, 0})
	// Two hoppers do not make up for each other.
	l = mail.Line{Hoppers: []mail.Hopper{{Part: 3, Watch: 1}, {Part: 5, Watch: 1}}, Batch: 5, Zones: [][]int{{3, 5}}}
	want = mail.Flow{Copies: []mail.Copy{wrong(0, 0, 3, 3)}, Declared: []int{0}}
	expectRun(t, l, []int{0}, []mail.Fault{double(0, 0), miss(0, 1)}, want, []int{2, 0})
}

// P9.2: a copy with a repair and another fault.
func TestRunRepaired(t *testing.T) {
	l := mail.Line{
		Hoppers: []mail.Hopper{{Part: 4, Watch: 2}, {Part: 2, Watch: 2}, {Part: 3, Watch: 2}, {Part: 9, Watch: 1}},
		Repair:  []int{2, 3},
		Batch:   10,
		Zones:   [][]int{{2, 3, 4, 9}},
	}
	faults := []mail.Fault{miss(0, 1), miss(1, 1), miss(1, 2), miss(2, 1), miss(2, 0), miss(3, 2), double(3, 1), miss(4, 2), double(4, 3)}
	want := mail.Flow{
		Copies:   []mail.Copy{right(0, 0, 2, 3, 4, 9), right(1, 0, 2, 3, 4, 9), wrong(4, 0, 2, 3, 4, 9, 9)},
		Thrown:   []int{2, 3},
		Repaired: []int{0, 1, 4},
		Declared: []int{0},
	}
	expectRun(t, l, make([]int, 5), faults, want, []int{4, 3, 2, 6})
}

// P9.2: the errors of runs.
func TestRunErrors(t *testing.T) {
	zones := []int{0, 1, 0}
	for _, x := range []struct {
		zones  []int
		faults []mail.Fault
		want   api.Errno
	}{
		{[]int{2}, nil, api.ErrRange},
		{[]int{0, -1}, nil, api.ErrRange},
		{[]int{0, math.MaxInt}, nil, api.ErrRange},
		{[]int{0, math.MinInt}, nil, api.ErrRange},
		{zones, []mail.Fault{miss(3, 0)}, api.ErrArg},
		{zones, []mail.Fault{miss(-1, 0)}, api.ErrArg},
		{zones, []mail.Fault{miss(math.MaxInt, 0)}, api.ErrArg},
		{zones, []mail.Fault{miss(0, 2)}, api.ErrArg},
		{zones, []mail.Fault{miss(0, -1)}, api.ErrArg},
		{zones, []mail.Fault{miss(0, math.MinInt)}, api.ErrArg},
		{zones, []mail.Fault{miss(1, 1)}, api.ErrArg},
		{nil, []mail.Fault{miss(0, 0)}, api.ErrArg},
		{zones, []mail.Fault{miss(0, 0), miss(0, 0)}, api.ErrTwice},
		{zones, []mail.Fault{miss(0, 0), miss(0, 1), double(0, 0)}, api.ErrTwice},
		{zones, []mail.Fault{double(0, 1), miss(2, 0), miss(0, 1)}, api.ErrTwice},
		// The first fault with an error decides.
		{zones, []mail.Fault{miss(0, 0), miss(0, 0), miss(3, 0)}, api.ErrTwice},
		{zones, []mail.Fault{miss(0, 0), miss(3, 0), miss(0, 0)}, api.ErrArg},
		{zones, []mail.Fault{miss(1, 1), miss(1, 1)}, api.ErrArg},
		{[]int{2}, []mail.Fault{miss(0, 7)}, api.ErrRange},
	} {
		expectNoRun(t, example(), x.zones, x.faults, x.want)
	}
	// A hopper that is not the first one of its part feeds no copy.
	l := example()
	l.Hoppers = append(l.Hoppers, mail.Hopper{Part: 3})
	expectNoRun(t, l, zones, []mail.Fault{miss(0, 2)}, api.ErrArg)
}

// P9.2: how many copies and faults there may be.
func TestRunLimits(t *testing.T) {
	zones := make([]int, 5000)
	var faults []mail.Fault
	for k := range zones {
		faults = append(faults, miss(k, 0))
	}
	f := run(t, example(), zones, faults)
	if len(f.Copies) != 5000 || len(f.Repaired) != 5000 || f.Thrown != nil || f.Declared != nil {
		t.Error(len(f.Copies), len(f.Repaired), f.Thrown, f.Declared)
	}
	expectNoRun(t, example(), append(zones, 0), nil, api.ErrMany)
	expectNoRun(t, example(), append(zones, 9), nil, api.ErrMany)
	expectNoRun(t, example(), zones, append(faults, miss(0, 1)), api.ErrMany)
	expectNoRun(t, example(), nil, append(faults, miss(0, 1)), api.ErrMany)
	l := example()
	l.Batch = 0
	expectNoRun(t, l, append(zones, 9), nil, api.ErrRange)
}

// P9.2: what becomes of copies, by the words of the chapter.
func TestAnyRun(t *testing.T) {
	rnd := rand.New(rand.NewSource(92))
	thrown, repaired, declared, undeclared := 0, 0, 0, 0
	for range 3000 {
		l := anyLine(rnd)
		zones := anyZones(rnd, l, rnd.Intn(30))
		faults := anyFaults(rnd, l, zones, 1+rnd.Intn(40))
		want, counts := flowOf(l, zones, faults)
		expectRun(t, l, zones, faults, want, counts...)
		thrown += len(want.Thrown)
		repaired += len(want.Repaired)
		declared += len(want.Declared)
		undeclared += len(counts) - len(want.Declared)
	}
	if min(thrown, repaired, declared, undeclared) < 500 {
		t.Error("not enough", thrown, repaired, declared, undeclared)
	}
}
