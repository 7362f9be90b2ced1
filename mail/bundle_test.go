package mail_test

import (
	"math"
	"math/rand"
	"slices"
	"testing"

	"foldhouse/api"
	"foldhouse/mail"
)

func expectSizes(t *testing.T, p mail.Pack, n int, want ...int) {
	t.Helper()
	if l, e := mail.Sizes(p, n); e != api.OK || !slices.Equal(l, want) {
		t.Error(p, n, l, e, want)
	}
}

// P9.3: the chapter's example 2, and its neighbours.
func TestSizes(t *testing.T) {
	p := mail.Pack{Size: 10, Least: 3}
	expectSizes(t, p, 20, 10, 10)
	expectSizes(t, p, 23, 10, 10, 3)
	expectSizes(t, p, 21, 10, 6, 5)
	expectSizes(t, p, 12, 6, 6)
	expectSizes(t, p, 7, 7)
	expectSizes(t, p, 0)
	expectSizes(t, p, 1, 1)
	expectSizes(t, p, 10, 10)
	expectSizes(t, p, 11, 6, 5)
	expectSizes(t, p, 13, 10, 3)
	expectSizes(t, p, 19, 10, 9)
	expectSizes(t, p, 22, 10, 6, 6)
	expectSizes(t, mail.Pack{Size: 1, Least: 1}, 3, 1, 1, 1)
	expectSizes(t, mail.Pack{Size: 2, Least: 1}, 3, 2, 1)
	expectSizes(t, mail.Pack{Size: 3, Least: 2}, 1, 1)
	expectSizes(t, mail.Pack{Size: 3, Least: 2}, 4, 2, 2)
	expectSizes(t, mail.Pack{Size: 5, Least: 3}, 6, 3, 3)
	expectSizes(t, mail.Pack{Size: 5, Least: 3}, 7, 4, 3)
	expectSizes(t, mail.Pack{Size: 200, Least: 100}, 299, 150, 149)
	expectSizes(t, mail.Pack{Size: 200, Least: 100}, 300, 200, 100)
	expectSizes(t, mail.Pack{Size: 200, Least: 1}, 5000, slices.Repeat([]int{200}, 25)...)
	expectSizes(t, mail.Pack{Size: 1, Least: 1}, 5000, slices.Repeat([]int{1}, 5000)...)
}

// P9.3: which packs and numbers are allowed.
func TestSizesErrors(t *testing.T) {
	for _, x := range []struct {
		p    mail.Pack
		want api.Errno
	}{
		{mail.Pack{}, api.ErrArg},
		{mail.Pack{Size: 0, Least: 1}, api.ErrArg},
		{mail.Pack{Size: -1, Least: 0}, api.ErrArg},
		{mail.Pack{Size: math.MaxInt, Least: 1}, api.ErrArg},
		{mail.Pack{Size: math.MinInt, Least: 1}, api.ErrArg},
		{mail.Pack{Size: 201, Least: 1}, api.ErrArg},
		{mail.Pack{Size: 200, Least: 1}, api.OK},
		{mail.Pack{Size: 200, Least: 100}, api.OK},
		{mail.Pack{Size: 200, Least: 101}, api.ErrArg},
		{mail.Pack{Size: 199, Least: 100}, api.OK},
		{mail.Pack{Size: 199, Least: 101}, api.ErrArg},
		{mail.Pack{Size: 10, Least: 5}, api.OK},
		{mail.Pack{Size: 10, Least: 6}, api.ErrArg},
		{mail.Pack{Size: 10, Least: 0}, api.ErrArg},
		{mail.Pack{Size: 10, Least: -1}, api.ErrArg},
		{mail.Pack{Size: 10, Least: math.MaxInt}, api.ErrArg},
		{mail.Pack{Size: 1, Least: 1}, api.OK},
		{mail.Pack{Size: 1, Least: 2}, api.ErrArg},
		{mail.Pack{Size: 2, Least: 2}, api.ErrArg},
		{mail.Pack{Size: 3, Least: 2}, api.OK},
	} {
		if l, e := mail.Sizes(x.p, 1); e != x.want || (e == api.OK) != slices.Equal(l, []int{1}) {
			t.Error(x, l, e)
		}
		if b, e := mail.Bundles(example(), mail.Flow{}, nil, x.p); e != x.want || b != nil {
			t.Error(x, b, e)
		}
	}
	for _, n := range []int{math.MinInt, -1, 5001, math.MaxInt} {
		if l, e := mail.Sizes(mail.Pack{Size: 10, Least: 3}, n); e != api.ErrArg || l != nil {
			t.Error(n, l, e)
		}
	}
}

// sizesOf returns the sizes of bundles, one after the other.
func sizesOf(p mail.Pack, n int) []int {
	switch {
	case n == 0:
		return nil
	case n <= p.Size:
		return []int{n}
	case n < 2*p.Size && n-p.Size < p.Least:
		return []int{n - n/2, n / 2}
	}
	return append([]int{p.Size}, sizesOf(p, n-p.Size)...)
}

// P9.3, P9.6: any sizes add up, and none is too great or too small.
func TestAnySizes(t *testing.T) {
	rnd := rand.New(rand.NewSource(93))
	for i := range 5000 {
		p, n := anyPack(rnd, 1+i%200), rnd.Intn(1+i)
		expectSizes(t, p, n, sizesOf(p, n)...)
		l, _ := mail.Sizes(p, n)
		sum := 0
		for _, size := range l {
			sum += size
			if size > p.Size || len(l) > 1 && size < p.Least {
				t.Error(p, n, l)
			}
		}
		if sum != n {
			t.Error(p, n, l)
		}
	}
}

// copies returns a flow with copies of zones, whose numbers are counted by three from 1 on.
func copies(zones ...int) mail.Flow {
	var f mail.Flow
	for i, zone := range zones {
		f.Copies = append(f.Copies, mail.Copy{Number: 1 + 3*i, Zone: zone})
	}
	return f
}

func expectBundles(t *testing.T, l mail.Line, f mail.Flow, drops []mail.Drop, p mail.Pack, want ...mail.Bundle) {
	t.Helper()
	if b, e := mail.Bundles(l, f, drops, p); e != api.OK || !slices.EqualFunc(b, want, sameBundle) {
		t.Errorf("%+v %v %v: %+v %v, not %+v", f, drops, p, b, e, want)
	}
}

// P9.3: copies go to drops in their order, and zone by zone.
func TestBundles(t *testing.T) {
	f := copies(0, 1, 0, 1, 0, 0, 0, 1)
	drops := []mail.Drop{{Id: 1000000, Zone: 1, Copies: 1}, {Id: 0, Zone: 0, Copies: 4}, {Id: 7, Zone: 0}, {Id: 3, Zone: 1, Copies: 2}}
	p := mail.Pack{Size: 3, Least: 2}
	want := []mail.Bundle{
		{Drop: 1000000, Number: 1, Of: 1, Copies: []int{4}},
		{Drop: 0, Number: 1, Of: 2, Copies: []int{1, 7}},
		{Drop: 0, Number: 2, Of: 2, Copies: []int{13, 16}},
		{Drop: 3, Number: 1, Of: 1, Copies: []int{10, 22}},
	}
	expectBundles(t, example(), f, drops, p, want...)
	// The batches have three copies each: 7 is in batch 2, 22 in batch 7.
	f.Declared = []int{-5, 2, 6, 7, math.MaxInt}
	want[1].Declared, want[3].Declared = true, true
	expectBundles(t, example(), f, drops, p, want...)
	// What was thrown out or repaired, and whether copies are right, does not matter.
	f.Thrown, f.Repaired, f.Copies[0].Right, f.Copies[1].Parts = []int{1, 1, -4}, []int{9, 0}, true, []int{99}
	expectBundles(t, example(), f, drops, p, want...)
	expectBundles(t, example(), f, nil, p)
	expectBundles(t, example(), mail.Flow{}, drops[2:3], p)
	// Copies of other zones go to none.
	f.Copies = append(f.Copies, mail.Copy{Number: 23, Zone: 2}, mail.Copy{Number: 24, Zone: -1}, mail.Copy{Number: math.MaxInt, Zone: 1})
	expectBundles(t, example(), f, drops, p, want...)
	expectBundles(t, example(), f, []mail.Drop{{Zone: 1, Copies: 4}}, mail.Pack{Size: 4, Least: 1}, mail.Bundle{Number: 1, Of: 1, Copies: []int{4, 10, 22, math.MaxInt}, Declared: true})
}

// P9.3: batches begin at multiples of Batch.
func TestBundlesDeclared(t *testing.T) {
	f := mail.Flow{Declared: []int{1}}
	for k := range 10 {
		f.Copies = append(f.Copies, mail.Copy{Number: k})
	}
	b, e := mail.Bundles(example(), f, []mail.Drop{{Copies: 10}}, mail.Pack{Size: 1, Least: 1})
	if e != api.OK || len(b) != 10 {
		t.Fatal(b, e)
	}
	for k := range b {
		if b[k].Declared != (k >= 3 && k <= 5) {
			t.Error(b[k])
		}
	}
}

// bundling is what is bundled.
type bundling struct {
	line  mail.Line
	flow  mail.Flow
	drops []mail.Drop
	pack  mail.Pack
}

func newBundling() *bundling {
	return &bundling{example(), copies(0, 0, 1, 1), []mail.Drop{{Id: 1, Zone: 0, Copies: 2}, {Id: 2, Zone: 1, Copies: 1}}, mail.Pack{Size: 5, Least: 2}}
}

func expectBundling(t *testing.T, want api.Errno, changes ...func(b *bundling)) {
	t.Helper()
	x := newBundling()
	for _, change := range changes {
		change(x)
	}
	b, e := mail.Bundles(x.line, x.flow, x.drops, x.pack)
	if e != want || e != api.OK && b != nil {
		t.Errorf("%+v: %v %v, not %v", *x, b, e, want)
	}
}

// P9.3: which drops are allowed.
func TestBundlesDrops(t *testing.T) {
	expectBundling(t, api.OK)
	for _, x := range []struct {
		drop mail.Drop
		want api.Errno
	}{
		{mail.Drop{Id: 0}, api.OK},
		{mail.Drop{Id: 1000000}, api.OK},
		{mail.Drop{Id: 1000001}, api.ErrRange},
		{mail.Drop{Id: -1}, api.ErrRange},
		{mail.Drop{Id: math.MaxInt}, api.ErrRange},
		{mail.Drop{Id: 3, Zone: 1}, api.OK},
		{mail.Drop{Id: 3, Zone: 2}, api.ErrRange},
		{mail.Drop{Id: 3, Zone: -1}, api.ErrRange},
		{mail.Drop{Id: 3, Zone: math.MinInt}, api.ErrRange},
		{mail.Drop{Id: 3, Copies: -1}, api.ErrRange},
		{mail.Drop{Id: 3, Copies: 1}, api.ErrBundle},
		{mail.Drop{Id: 3, Copies: 5000}, api.ErrBundle},
		{mail.Drop{Id: 3, Copies: 5001}, api.ErrRange},
		{mail.Drop{Id: 3, Copies: math.MaxInt}, api.ErrRange},
		{mail.Drop{Id: 3, Zone: 1, Copies: 1}, api.OK},
		{mail.Drop{Id: 3, Zone: 1, Copies: 2}, api.ErrBundle},
		{mail.Drop{Id: 1}, api.ErrTwice},
		{mail.Drop{Id: 2}, api.ErrTwice},
		{mail.Drop{Id: 2, Zone: 2}, api.ErrRange},
	} {
		expectBundling(t, x.want, func(b *bundling) { b.drops = append(b.drops, x.drop) })
	}
}

// P9.3: how many drops there may be.
func TestBundlesManyDrops(t *testing.T) {
	for n, want := range map[int]api.Errno{0: api.OK, 100: api.OK, 101: api.ErrMany, 1000: api.ErrMany} {
		drops := make([]mail.Drop, n)
		for i := range drops {
			drops[i].Id = i
		}
		expectBundling(t, want, func(b *bundling) { b.drops = drops })
	}
}

// P9.3: which flows are allowed.
func TestBundlesFlow(t *testing.T) {
	for _, x := range []struct {
		numbers [4]int
		want    api.Errno
	}{
		{[4]int{0, 1, 2, 3}, api.OK},
		{[4]int{-1, 1, 2, 3}, api.ErrArg},
		{[4]int{math.MinInt, 1, 2, 3}, api.ErrArg},
		{[4]int{0, 1, 1, 3}, api.ErrArg},
		{[4]int{0, 1, 3, 2}, api.ErrArg},
		{[4]int{0, 1, 2, -1}, api.ErrArg},
		{[4]int{0, 1, 2, math.MaxInt}, api.OK},
	} {
		expectBundling(t, x.want, func(b *bundling) {
			for i, number := range x.numbers {
				b.flow.Copies[i].Number = number
			}
		})
	}
	for _, x := range []struct {
		declared []int
		want     api.Errno
	}{{[]int{}, api.OK}, {[]int{5}, api.OK}, {[]int{0, 1, 9}, api.OK}, {[]int{0, 0}, api.ErrArg}, {[]int{0, 2, 1}, api.ErrArg}} {
		expectBundling(t, x.want, func(b *bundling) { b.flow.Declared = x.declared })
	}
}

// P9.3: which error of Bundles comes first.
func TestBundlesOrder(t *testing.T) {
	few := func(b *bundling) { b.drops[0].Copies = 3 }
	flow := func(b *bundling) { b.flow.Copies[0].Number = 9 }
	pack := func(b *bundling) { b.pack.Size = 0 }
	twice := func(b *bundling) { b.drops[1].Id = 1 }
	outside := func(b *bundling) { b.drops[1].Zone = 7 }
	many := func(b *bundling) { b.drops = append(b.drops, make([]mail.Drop, 99)...) }
	batch := func(b *bundling) { b.line.Batch = 0 }
	expectBundling(t, api.ErrBundle, few)
	expectBundling(t, api.ErrArg, few, flow)
	expectBundling(t, api.ErrArg, few, pack)
	expectBundling(t, api.ErrTwice, few, flow, pack, twice)
	expectBundling(t, api.ErrRange, few, flow, pack, twice, outside)
	expectBundling(t, api.ErrMany, few, flow, pack, twice, outside, many)
	expectBundling(t, api.ErrRange, few, flow, pack, twice, many, batch)
	// The first drop with an error decides.
	third := func(b *bundling) { b.drops = append(b.drops, mail.Drop{Id: -1}) }
	expectBundling(t, api.ErrTwice, twice, third)
}

func expectShort(t *testing.T, f mail.Flow, drops []mail.Drop, e api.Errno, want ...int) {
	t.Helper()
	if l, is := mail.Short(f, drops); is != e || !slices.Equal(l, want) || e != api.OK && l != nil {
		t.Error(f, drops, l, is, e, want)
	}
}

// P9.3: how many copies drops lack.
func TestShort(t *testing.T) {
	f := copies(0, 1, 0, 1, 0, 0, 5)
	expectShort(t, f, nil, api.OK)
	expectShort(t, f, []mail.Drop{{Copies: 4}, {Copies: 1}, {Zone: 1, Copies: 2}, {Zone: 9, Copies: 8}}, api.OK, 0, 1, 0, 8)
	expectShort(t, f, []mail.Drop{{Copies: 3}, {Zone: 1, Copies: 5000}, {Copies: 3}, {Zone: 1, Copies: 1}, {}, {Copies: 2}}, api.OK, 0, 4998, 2, 1, 0, 2)
	// Ids and zones may be any from 0 on, and copies need not be in order.
	f.Copies[3].Number, f.Declared = -7, []int{2, 1}
	expectShort(t, f, []mail.Drop{{Id: math.MaxInt, Zone: math.MaxInt, Copies: 1}, {Id: 8, Zone: 5, Copies: 2}, {Id: 8, Zone: 1, Copies: 3}}, api.OK, 1, 1, 1)
	f.Copies[0].Zone = -1
	expectShort(t, f, []mail.Drop{{Copies: 5}}, api.OK, 2)
}

// P9.3: the errors of Short.
func TestShortErrors(t *testing.T) {
	for _, x := range []struct {
		drop mail.Drop
		want api.Errno
	}{
		{mail.Drop{Copies: -1}, api.ErrRange},
		{mail.Drop{Copies: 5001}, api.ErrRange},
		{mail.Drop{Copies: math.MaxInt}, api.ErrRange},
		{mail.Drop{Id: -1}, api.ErrRange},
		{mail.Drop{Id: math.MinInt}, api.ErrRange},
		{mail.Drop{Zone: -1}, api.ErrRange},
	} {
		expectShort(t, copies(0, 0), []mail.Drop{{Copies: 1}, x.drop}, x.want)
		expectShort(t, copies(0, 0), append(make([]mail.Drop, 100), x.drop), api.ErrMany)
	}
	expectShort(t, copies(0), make([]mail.Drop, 100), api.OK, make([]int, 100)...)
}

func expectTrace(t *testing.T, b []mail.Bundle, number, bundle, place int, want api.Errno) {
	t.Helper()
	if i, k, e := mail.Trace(b, number); i != bundle || k != place || e != want {
		t.Error(b, number, i, k, e)
	}
}

// P9.3: the bundle of a copy.
func TestTrace(t *testing.T) {
	b := []mail.Bundle{{Copies: []int{4, 2}}, {}, {Copies: []int{-3, 7, 2, 7}}, {Drop: 9, Copies: []int{7, math.MinInt}}}
	expectTrace(t, b, 4, 0, 0, api.OK)
	expectTrace(t, b, 2, 0, 1, api.OK)
	expectTrace(t, b, -3, 2, 0, api.OK)
	expectTrace(t, b, 7, 2, 1, api.OK)
	expectTrace(t, b, math.MinInt, 3, 1, api.OK)
	for _, number := range []int{0, 9, -4, math.MaxInt} {
		expectTrace(t, b, number, 0, 0, api.ErrNone)
	}
	expectTrace(t, nil, 0, 0, 0, api.ErrNone)
}

// P9.3: what becomes of the copies of any runs, by the words of the chapter.
func TestAnyBundles(t *testing.T) {
	rnd := rand.New(rand.NewSource(94))
	for range 2000 {
		l := anyLine(rnd)
		zones := anyZones(rnd, l, rnd.Intn(60))
		f := run(t, l, zones, anyFaults(rnd, l, zones, 1+rnd.Intn(40)))
		drops, p := anyDrops(rnd, l, f), anyPack(rnd, 12)
		left := slices.Clone(f.Copies)
		var want []mail.Bundle
		for _, d := range drops {
			sizes := sizesOf(p, d.Copies)
			for i, size := range sizes {
				b := mail.Bundle{Drop: d.Id, Number: i + 1, Of: len(sizes)}
				for range size {
					next := slices.IndexFunc(left, func(c mail.Copy) bool { return c.Zone == d.Zone })
					b.Copies = append(b.Copies, left[next].Number)
					b.Declared = b.Declared || slices.Contains(f.Declared, left[next].Number/l.Batch)
					left = slices.Delete(left, next, next+1)
				}
				want = append(want, b)
			}
		}
		expectBundles(t, l, f, drops, p, want...)
		expectShort(t, f, drops, api.OK, make([]int, len(drops))...)
		for i, b := range want {
			for k, number := range b.Copies {
				expectTrace(t, want, number, i, k, api.OK)
			}
		}
		for _, c := range left {
			expectTrace(t, want, c.Number, 0, 0, api.ErrNone)
		}
	}
}

// P9.3: Bundles has an error just if a drop lacks copies.
func TestShortAndBundles(t *testing.T) {
	rnd := rand.New(rand.NewSource(95))
	lacking := 0
	for range 2000 {
		l := anyLine(rnd)
		f := run(t, l, anyZones(rnd, l, rnd.Intn(60)), nil)
		drops := anyDrops(rnd, l, f)
		if len(drops) == 0 {
			continue
		}
		drops[rnd.Intn(len(drops))].Copies += rnd.Intn(3)
		lacks, e := mail.Short(f, drops)
		if e != api.OK {
			t.Fatal(e)
		}
		want := api.OK
		if slices.Max(lacks) > 0 {
			want = api.ErrBundle
			lacking++
		}
		if _, e := mail.Bundles(l, f, drops, anyPack(rnd, 12)); e != want {
			t.Error(f, drops, e)
		}
		for i := range drops {
			drops[i].Copies -= lacks[i]
		}
		if _, e := mail.Bundles(l, f, drops, anyPack(rnd, 12)); e != api.OK {
			t.Error(f, drops, e)
		}
	}
	if lacking < 300 {
		t.Error("not enough", lacking)
	}
}
