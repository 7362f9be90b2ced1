package fold_test

import (
	"math/rand"
	"reflect"
	"slices"

	"foldhouse/fold"
)

// makeRun returns a run of webs with these columns, and without pages.
func makeRun(rows int, cols []int, ribbons []fold.Ribbon, stacks ...[]int) fold.Run {
	r := fold.Run{Ribbons: ribbons, Stacks: stacks}
	for _, n := range cols {
		r.Webs = append(r.Webs, fold.Web{Cols: n, Rows: rows, Plates: make([]fold.Plate, 2*n*rows)})
	}
	return r
}

// small returns the run of the chapter's first example.
func small() fold.Run {
	return makeRun(1, []int{2}, []fold.Ribbon{{Width: 2}}, []int{0})
}

// largest returns a run of 8 webs of 4 columns and 2 rows, which is slit into 32 ribbons in 4 stacks.
func largest() fold.Run {
	r := makeRun(2, slices.Repeat([]int{4}, fold.MaxWebs), nil, make([][]int, fold.MaxStacks)...)
	for n := range fold.MaxRibbons {
		r.Ribbons = append(r.Ribbons, fold.Ribbon{Web: n / 4, Col: n % 4, Width: 1, Left: n%3 == 0})
		r.Stacks[n%fold.MaxStacks] = append(r.Stacks[n%fold.MaxStacks], n)
	}
	return r
}

// anyRun returns a right run that the random numbers choose, with pages on its plates.
func anyRun(rnd *rand.Rand) fold.Run {
	r := fold.Run{}
	rows := 1 + rnd.Intn(2)
	r.Collected = rows == 2 && rnd.Intn(2) == 0
	for web := range 1 + rnd.Intn(fold.MaxWebs) {
		cols := 1 + rnd.Intn(4)
		r.Webs = append(r.Webs, fold.Web{Cols: cols, Rows: rows, Plates: make([]fold.Plate, 2*cols*rows)})
		for i := range r.Webs[web].Plates {
			r.Webs[web].Plates[i] = fold.Plate{Page: rnd.Intn(129), Upside: rnd.Intn(4) == 0}
		}
		for col := 0; col < cols; {
			b := fold.Ribbon{Web: web, Col: col, Width: min(1+rnd.Intn(2), cols-col), Turned: rnd.Intn(2) == 0}
			b.Left = b.Width == 1 && rnd.Intn(2) == 0
			col += b.Width
			r.Ribbons = append(r.Ribbons, b)
		}
	}
	rnd.Shuffle(len(r.Ribbons), func(i, j int) { r.Ribbons[i], r.Ribbons[j] = r.Ribbons[j], r.Ribbons[i] })
	r.Stacks = make([][]int, min(1+rnd.Intn(fold.MaxStacks), len(r.Ribbons)))
	for i, ribbon := range rnd.Perm(len(r.Ribbons)) {
		s := i
		if i >= len(r.Stacks) {
			s = rnd.Intn(len(r.Stacks))
		}
		r.Stacks[s] = append(r.Stacks[s], ribbon)
	}
	return r
}

// anyRuns calls test with many right runs, the same ones each time.
func anyRuns(test func(r fold.Run, rnd *rand.Rand)) {
	rnd := rand.New(rand.NewSource(1))
	for range 500 {
		test(anyRun(rnd), rnd)
	}
}

// anyProduct returns a product that fits sections of these sizes.
func anyProduct(rnd *rand.Rand, sizes []int) [][]int {
	var product [][]int
	for _, n := range sizes {
		section := make([]int, n)
		for i := range section {
			section[i] = rnd.Intn(129)
		}
		product = append(product, section)
	}
	return product
}

// deepCopy returns a run that is equal to r and shares no memory with it.
func deepCopy(r fold.Run) fold.Run {
	out := r
	out.Webs = slices.Clone(r.Webs)
	for i := range out.Webs {
		out.Webs[i].Plates = slices.Clone(r.Webs[i].Plates)
	}
	out.Ribbons = slices.Clone(r.Ribbons)
	out.Stacks = slices.Clone(r.Stacks)
	for i := range out.Stacks {
		out.Stacks[i] = slices.Clone(r.Stacks[i])
	}
	return out
}

// numbers returns the numbers from first to last.
func numbers(first, last int) []int {
	var out []int
	for n := first; n <= last; n++ {
		out = append(out, n)
	}
	return out
}

// pages returns the pages of the plates of a web.
func pages(w fold.Web) []int {
	var out []int
	for _, p := range w.Plates {
		out = append(out, p.Page)
	}
	return out
}

// allSpots returns the spots of a run, in the order of the plates of its webs.
func allSpots(r fold.Run) []fold.Spot {
	var out []fold.Spot
	for web, w := range r.Webs {
		for side := range 2 {
			for row := range w.Rows {
				for col := range w.Cols {
					out = append(out, fold.Spot{Web: web, Side: side, Row: row, Col: col})
				}
			}
		}
	}
	return out
}

// plateOf returns the plate on a spot, from the index that the chapter gives for it.
func plateOf(r fold.Run, s fold.Spot) *fold.Plate {
	w := r.Webs[s.Web]
	return &w.Plates[(s.Side*w.Rows+s.Row)*w.Cols+s.Col]
}

// expectedSpots returns the spots of all places, found another way than by the package: the pages of right halves are numbered from the first page on, those of left halves from the last page back, both by the lowest ribbon first.
func expectedSpots(r fold.Run) map[fold.Place]fold.Spot {
	out := map[fold.Place]fold.Spot{}
	for s, stack := range r.Stacks {
		total := 0
		for _, n := range stack {
			total += 2 * r.Ribbons[n].Width
		}
		for row := range r.Webs[0].Rows {
			place := fold.Place{Copy: row, Section: s}
			if r.Collected {
				place = fold.Place{Section: 2*s + row}
			}
			put := func(index int, b fold.Ribbon, isUpper, isRight bool) {
				spot := fold.Spot{Web: b.Web, Row: row, Col: b.Col}
				if isUpper == b.Turned {
					spot.Side = 1
				}
				if b.Width == 2 && isRight != b.Turned {
					spot.Col++
				}
				place.Index = index
				out[place] = spot
			}
			front, back := 0, total-1
			for _, n := range stack {
				b := r.Ribbons[n]
				if b.Width == 2 || !b.Left {
					put(front, b, false, true)
					put(front+1, b, true, true)
					front += 2
				}
				if b.Width == 2 || b.Left {
					put(back, b, false, false)
					put(back-1, b, true, false)
					back -= 2
				}
			}
		}
	}
	return out
}

// same reports whether two values are deeply equal.
func same(a, b any) bool { return reflect.DeepEqual(a, b) }
