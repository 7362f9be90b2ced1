package works

import (
	"slices"

	"foldhouse/edition"
	"foldhouse/impose"
	"foldhouse/mail"
	"foldhouse/press"
	"foldhouse/reel"
)

// each returns a list of clones of the elements of a list.
func each[T any](l []T, clone func(T) T) []T {
	var out []T
	for _, x := range l {
		out = append(out, clone(x))
	}
	return out
}

// clone returns a night that shares no memory with n.
func (n night) clone() night {
	n.Setup = n.Setup.clone()
	n.order, n.plan = slices.Clone(n.order), clonePlan(n.plan)
	n.items, n.state, n.copies = slices.Clone(n.items), cloneState(n.state), slices.Clone(n.copies)
	n.bundles, n.entries = each(n.bundles, cloneBundle), slices.Clone(n.entries)
	return n
}

// clone returns a setup that shares no memory with s.
func (s Setup) clone() Setup {
	s.Title = cloneTitle(s.Title)
	s.Job = cloneJob(s.Job)
	s.Press.Jammed = slices.Clone(s.Press.Jammed)
	s.Paper.Webs = each(s.Paper.Webs, cloneWeb)
	s.Line = cloneLine(s.Line)
	s.Drops = slices.Clone(s.Drops)
	return s
}

func cloneTitle(t edition.Title) edition.Title {
	t.Colours, t.Pairs, t.Ready = slices.Clone(t.Colours), slices.Clone(t.Pairs), slices.Clone(t.Ready)
	t.Zones = each(t.Zones, func(z edition.Zone) edition.Zone {
		z.Variants = slices.Clone(z.Variants)
		return z
	})
	return t
}

func cloneJob(j impose.Job) impose.Job {
	j.Towers = each(j.Towers, func(t impose.Tower) impose.Tower {
		t.Colour = [2][]bool{slices.Clone(t.Colour[0]), slices.Clone(t.Colour[1])}
		return t
	})
	j.Sections, j.Panoramas = each(j.Sections, slices.Clone[[]impose.Leaf]), slices.Clone(j.Panoramas)
	return j
}

func cloneWeb(w reel.Web) reel.Web {
	w.Reels = slices.Clone(w.Reels)
	return w
}

func cloneLine(l mail.Line) mail.Line {
	l.Hoppers, l.Repair, l.Zones = slices.Clone(l.Hoppers), slices.Clone(l.Repair), each(l.Zones, slices.Clone[[]int])
	return l
}

func clonePlan(p impose.Plan) impose.Plan {
	return impose.Plan{Cols: slices.Clone(p.Cols), Stacks: each(p.Stacks, slices.Clone[[]impose.Slot])}
}

func cloneState(s press.State) press.State {
	s.Units = slices.Clone(s.Units)
	return s
}

func cloneBundle(b mail.Bundle) mail.Bundle {
	b.Copies = slices.Clone(b.Copies)
	return b
}
