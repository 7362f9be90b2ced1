package impose_test

import (
	"math"
	"slices"
	"testing"

	"foldhouse/api"
	"foldhouse/impose"
)

// errorCase is a job with an error, or without one.
type errorCase struct {
	name string
	j    impose.Job
	want api.Errno
}

// changed returns a case: a job with two towers and two sections, changed.
func changed(name string, want api.Errno, change func(j *impose.Job)) errorCase {
	j := impose.Job{Towers: []impose.Tower{plain(2), quick(3)}, Rows: 1, Sections: [][]impose.Leaf{leaves(4), leaves(6)}}
	change(&j)
	return errorCase{name, j, want}
}

// collected returns a case: a collected job whose sections have these numbers of pages.
func collected(name string, want api.Errno, pages ...int) errorCase {
	return changed(name, want, func(j *impose.Job) {
		j.Rows, j.Collected, j.Sections = 2, true, nil
		for _, n := range pages {
			j.Sections = append(j.Sections, leaves(n))
		}
	})
}

func numberCases() []errorCase {
	sections := func(n int) func(j *impose.Job) {
		return func(j *impose.Job) { j.Sections = slices.Repeat([][]impose.Leaf{leaves(2)}, n) }
	}
	return []errorCase{
		{"zero job", impose.Job{}, api.ErrMany},
		{"largest job", largest(), api.OK},
		changed("as it is", api.OK, func(j *impose.Job) {}),
		changed("nil towers", api.ErrMany, func(j *impose.Job) { j.Towers = nil }),
		changed("empty towers", api.ErrMany, func(j *impose.Job) { j.Towers = []impose.Tower{} }),
		changed("three towers", api.OK, func(j *impose.Job) { j.Towers = append(j.Towers, plain(4)) }),
		changed("four towers", api.ErrMany, func(j *impose.Job) { j.Towers = append(j.Towers, plain(4), plain(4)) }),
		changed("nil sections", api.ErrMany, func(j *impose.Job) { j.Sections = nil }),
		changed("empty sections", api.ErrMany, func(j *impose.Job) { j.Sections = [][]impose.Leaf{} }),
		changed("one section", api.OK, sections(1)),
		changed("three sections", api.OK, sections(3)),
		changed("four sections", api.ErrMany, sections(4)),
		collected("no collected sections", api.ErrMany),
		collected("six collected sections", api.OK, 2, 2, 4, 4, 24, 24),
		collected("seven collected sections", api.ErrMany, 2, 2, 2, 2, 2, 2, 2),
		collected("eight collected sections", api.ErrMany, 2, 2, 2, 2, 2, 2, 2, 2),
		changed("six panoramas", api.OK, func(j *impose.Job) { j.Panoramas = make([]impose.Spread, 6) }),
		changed("seven panoramas", api.ErrMany, func(j *impose.Job) { j.Panoramas = make([]impose.Spread, 7) }),
	}
}

func rangeCases() []errorCase {
	var l []errorCase
	for _, n := range []int{math.MinInt, -1, 0, 5, math.MaxInt} {
		l = append(l, changed("columns", api.ErrRange, func(j *impose.Job) { j.Towers[1].Cols = n }))
	}
	for _, n := range []int{math.MinInt, -1, 0, 3, math.MaxInt} {
		l = append(l, changed("rows", api.ErrRange, func(j *impose.Job) { j.Rows = n }))
	}
	for n := 1; n <= 4; n++ {
		l = append(l, changed("allowed columns", api.OK, func(j *impose.Job) { j.Towers[0] = plain(n) }))
	}
	for side := range 2 {
		for _, n := range []int{0, 1, 3} {
			l = append(l, changed("colour", api.ErrRange, func(j *impose.Job) { j.Towers[0].Colour[side] = make([]bool, n) }))
		}
	}
	return append(l,
		changed("five columns with colour", api.ErrRange, func(j *impose.Job) { j.Towers[0] = plain(5) }),
		changed("no columns, no colour", api.ErrRange, func(j *impose.Job) { j.Towers[0] = impose.Tower{} }),
		changed("two rows", api.OK, func(j *impose.Job) { j.Rows = 2 }))
}

func sectionCases() []errorCase {
	var l []errorCase
	for _, n := range []int{0, 1, 25, 1000} {
		l = append(l, changed("pages", api.ErrImpose, func(j *impose.Job) { j.Sections[1] = leaves(n) }))
	}
	for _, n := range []int{2, 3, 23, 24} {
		l = append(l, changed("allowed pages", api.OK, func(j *impose.Job) { j.Sections[1] = leaves(n) }))
	}
	return append(l,
		changed("collected in one row", api.ErrImpose, func(j *impose.Job) { j.Collected, j.Sections[1] = true, leaves(4) }),
		collected("two equal sections", api.OK, 4, 4),
		collected("one section", api.ErrImpose, 4),
		collected("three sections", api.ErrImpose, 4, 4, 4),
		collected("five sections", api.ErrImpose, 4, 4, 4, 4, 4),
		collected("different sections", api.ErrImpose, 4, 6),
		collected("different sections later", api.ErrImpose, 4, 4, 6, 4),
		collected("pairs that differ", api.OK, 4, 4, 6, 6),
		collected("pairs across", api.ErrImpose, 4, 6, 6, 4),
		collected("25 pages", api.ErrImpose, 25, 25))
}

func panoramaCases() []errorCase {
	panorama := func(name string, want api.Errno, section, index int) errorCase {
		return changed(name, want, func(j *impose.Job) {
			j.Panoramas = []impose.Spread{{Index: 1}, {Section: section, Index: index}}
		})
	}
	return []errorCase{
		panorama("first page", api.OK, 0, 0),
		panorama("twice", api.OK, 0, 1),
		panorama("last but one", api.OK, 0, 2),
		panorama("last page", api.ErrPage, 0, 3),
		panorama("last page of the second section", api.ErrPage, 1, 5),
		panorama("last but one of the second section", api.OK, 1, 4),
		panorama("after the last page", api.ErrPage, 0, 4),
		panorama("before the first page", api.ErrPage, 0, -1),
		panorama("no section", api.ErrPage, 2, 0),
		panorama("negative section", api.ErrPage, -1, 0),
		panorama("least numbers", api.ErrPage, math.MinInt, math.MinInt),
		panorama("least index", api.ErrPage, 0, math.MinInt),
		panorama("greatest numbers", api.ErrPage, math.MaxInt, math.MaxInt),
		panorama("greatest index", api.ErrPage, 0, math.MaxInt),
	}
}

// orderCases have several errors.
func orderCases() []errorCase {
	l := []errorCase{
		changed("many before range", api.ErrMany, func(j *impose.Job) { j.Rows, j.Panoramas = 0, make([]impose.Spread, 7) }),
		changed("range before impose", api.ErrRange, func(j *impose.Job) { j.Rows, j.Sections[0] = 3, leaves(1) }),
		changed("columns before impose", api.ErrRange, func(j *impose.Job) { j.Towers[1].Cols, j.Collected = 2, true }),
		changed("impose before page", api.ErrImpose, func(j *impose.Job) {
			j.Collected, j.Panoramas = true, []impose.Spread{{Section: 9}}
		}),
	}
	return l
}

// P2.1, and all functions return the error of the job first.
func TestCheck(t *testing.T) {
	for _, c := range slices.Concat(numberCases(), rangeCases(), sectionCases(), panoramaCases(), orderCases()) {
		if e := impose.Check(c.j); e != c.want {
			t.Error(c.name, e, c.want)
		}
		if _, e := impose.Needs(c.j); e != c.want {
			t.Error(c.name, "Needs", e)
		}
		if c.want == api.OK {
			continue
		}
		bad := impose.Plan{Cols: []int{-1}}
		_, build := impose.Build(c.j, bad)
		_, value := impose.Value(c.j, bad)
		_, why := impose.Why(c.j, bad)
		_, pages := impose.Pages(c.j, bad, -1)
		_, without := impose.Without(c.j, -1)
		_, _, least := impose.Least(c.j)
		for i, e := range []api.Errno{build, value, why, pages, without, least} {
			if e != c.want {
				t.Error(c.name, i, e, c.want)
			}
		}
	}
}
