package reel_test

import (
	"math/rand"

	"foldhouse/api"
	"foldhouse/reel"
)

// example is the press of the chapter's example 1.
func example() reel.Press {
	return reel.Press{Cut: 500, Margin: 1, Webs: []reel.Web{{Before: 100, After: 200, Reels: []reel.Reel{
		{Id: 1, Width: 1400, Length: 10000, Core: 200}, {Id: 2, Width: 1400, Length: 10000, Core: 200},
	}}}}
}

// second is the press of the chapter's example 2, whose second web has a splice too.
func second() reel.Press {
	p := example()
	p.Webs = append(p.Webs, reel.Web{Offset: 300, Before: 100, After: 200, Reels: reels(3, 9800, 10200)})
	return p
}

// reels returns reels that give these lengths, with Ids from first on.
func reels(first int, gives ...int) []reel.Reel {
	var l []reel.Reel
	for i, n := range gives {
		l = append(l, reel.Reel{Id: first + i, Width: 700, Length: n})
	}
	return l
}

// single is a press with one web, whose reels give these lengths.
func single(cut, margin, offset, before, after int, gives ...int) reel.Press {
	return reel.Press{Cut: cut, Margin: margin, Webs: []reel.Web{
		{Offset: offset, Before: before, After: after, Reels: reels(1, gives...)},
	}}
}

// huge is a press with as much paper as there can be.
func huge(webs int) reel.Press {
	p := reel.Press{Cut: 300}
	for n := range webs {
		web := reel.Web{}
		for i := range reel.MaxReels {
			web.Reels = append(web.Reels, reel.Reel{Id: n*reel.MaxReels + i, Width: 1, Length: reel.MaxLength})
		}
		p.Webs = append(p.Webs, web)
	}
	return p
}

// either returns one of some numbers.
func either(rnd *rand.Rand, l ...int) int { return l[rnd.Intn(len(l))] }

// anyPress returns a press with a few short reels, of which some give nothing.
func anyPress(rnd *rand.Rand) reel.Press {
	p := reel.Press{Cut: 300 + rnd.Intn(200), Margin: either(rnd, 0, 1, 2, 3, 20)}
	id := 0
	for range 1 + rnd.Intn(3) {
		web := reel.Web{
			Offset: either(rnd, 0, p.Cut, rnd.Intn(1000), rnd.Intn(5000)),
			Before: either(rnd, 0, 0, 1, rnd.Intn(400), rnd.Intn(2000)),
			After:  either(rnd, 0, 0, 1, rnd.Intn(400), rnd.Intn(2000)),
		}
		for range rnd.Intn(6) {
			core := rnd.Intn(100)
			gives := either(rnd, 0, p.Cut*rnd.Intn(20), rnd.Intn(5000), 3000+rnd.Intn(5000))
			web.Reels = append(web.Reels, reel.Reel{Id: id, Width: 1 + rnd.Intn(3000), Length: core + gives, Core: core})
			id++
		}
		p.Webs = append(p.Webs, web)
	}
	return p
}

// paper returns the index of the reel that gives each millimetre of a web.
func paper(w reel.Web) []int {
	var l []int
	for i, r := range w.Reels {
		for range r.Length - r.Core {
			l = append(l, i)
		}
	}
	return l
}

// reach returns the reach, copy by copy.
func reach(p reel.Press) int {
	for n := 0; ; n++ {
		for _, web := range p.Webs {
			if web.Offset+n*p.Cut+p.Cut > len(paper(web)) {
				return n
			}
		}
	}
}

// spoiled returns the millimetres of a web that are spoiled.
func spoiled(w reel.Web) map[int]bool {
	found := map[int]bool{}
	place := 0
	for i, r := range w.Reels {
		for n := place - w.Before; i > 0 && n <= place+w.After-1; n++ {
			found[n] = true
		}
		place += r.Length - r.Core
	}
	return found
}

// thrown tells for each of the first copies whether it is thrown out, millimetre by millimetre.
func thrown(p reel.Press, copies int) []bool {
	out := make([]bool, copies)
	for _, web := range p.Webs {
		bad := spoiled(web)
		for k := -p.Margin; k < copies+p.Margin; k++ {
			for n := range p.Cut {
				if !bad[web.Offset+k*p.Cut+n] {
					continue
				}
				for near := max(0, k-p.Margin); near <= min(k+p.Margin, copies-1); near++ {
					out[near] = true
				}
				break
			}
		}
	}
	return out
}

// spans returns the intervals of the copies that are thrown out.
func spans(out []bool) []api.Span {
	var l []api.Span
	for k, is := range out {
		switch {
		case !is:
		case k > 0 && out[k-1]:
			l[len(l)-1].Hi = k
		default:
			l = append(l, api.Span{Lo: k, Hi: k})
		}
	}
	return l
}
