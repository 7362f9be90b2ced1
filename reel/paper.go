package reel

import (
	"cmp"
	"iter"
	"slices"

	"foldhouse/api"
)

// gives returns how much paper a reel gives.
func (r Reel) gives() int { return r.Length - r.Core }

// gives returns how much paper all reels of a web give.
func (w Web) gives() int {
	sum := 0
	for _, r := range w.Reels {
		sum += r.gives()
	}
	return sum
}

// splices yields the places of the splices of a web, in order.
func (w Web) splices() iter.Seq[int] {
	return func(yield func(place int) bool) {
		place := 0
		for i, r := range w.Reels {
			if i > 0 && !yield(place) {
				return
			}
			place += r.gives()
		}
	}
}

// reach returns how many copies can be printed, api.MaxCopies at most.
func (p Press) reach() int {
	copies := api.MaxCopies
	for _, web := range p.Webs {
		copies = min(copies, max(0, web.gives()-web.Offset)/p.Cut)
	}
	return copies
}

// thrown returns which of the first copies are thrown out.
func (p Press) thrown(copies int) []api.Span {
	var spans []api.Span
	for _, web := range p.Webs {
		if web.Before+web.After == 0 {
			continue
		}
		for place := range web.splices() {
			s := p.thrownBy(web, place)
			s.Lo, s.Hi = max(s.Lo, 0), min(s.Hi, copies-1)
			if s.Lo <= s.Hi {
				spans = append(spans, s)
			}
		}
	}
	slices.SortFunc(spans, func(a, b api.Span) int { return cmp.Compare(a.Lo, b.Lo) })
	return joined(spans, meet)
}

// thrownBy returns which copies a splice that spoils paper throws out, those before copy 0 and behind the run too.
func (p Press) thrownBy(w Web, place int) api.Span {
	first, last := place-w.Before, place+w.After-1
	return api.Span{
		Lo: floor(first-w.Offset, p.Cut) - p.Margin,
		Hi: floor(last-w.Offset, p.Cut) + p.Margin,
	}
}

// floor returns n by d, rounded down also below 0.
func floor(n, d int) int {
	if n%d < 0 {
		return n/d - 1
	}
	return n / d
}

// meet returns the interval of all numbers of two that overlap or adjoin, of which the second one does not begin first.
func meet(a, b api.Span) (api.Span, bool) {
	if b.Lo > a.Hi+1 {
		return api.Span{}, false
	}
	return api.Span{Lo: a.Lo, Hi: max(a.Hi, b.Hi)}, true
}

// joined returns a list in which each element is joined with the one before it, if this is possible.
func joined[T any](l []T, join func(a, b T) (T, bool)) []T {
	var out []T
	for _, next := range l {
		if last := len(out) - 1; last >= 0 {
			if both, can := join(out[last], next); can {
				out[last] = both
				continue
			}
		}
		out = append(out, next)
	}
	return out
}
