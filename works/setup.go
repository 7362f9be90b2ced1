package works

import (
	"cmp"

	"foldhouse/api"
	"foldhouse/edition"
	"foldhouse/impose"
	"foldhouse/mail"
	"foldhouse/press"
	"foldhouse/reel"
)

// check returns the first error of a setup that can be told before its order and its plan are sought.
func (s Setup) check() api.Errno {
	if e := s.checkParts(); e != api.OK {
		return e
	}
	return s.checkTogether()
}

// checkParts returns the first error of the parts of a setup, each by itself.
func (s Setup) checkParts() api.Errno {
	return cmp.Or(edition.Check(s.Title), impose.Check(s.Job), press.Check(s.Press), reel.Check(s.Paper), mail.Check(s.Line))
}

// checkTogether returns the first error of parts that are right by themselves, but do not fit each other.
func (s Setup) checkTogether() api.Errno {
	switch {
	case s.Job.Collected:
		return api.ErrImpose
	case len(s.leaves()) != len(s.Title.Colours):
		return api.ErrPage
	case !s.hasColours():
		return api.ErrColour
	case !s.hasNumbers():
		return api.ErrLarge
	case len(s.Press.Jammed) != len(s.Job.Towers):
		return api.ErrPress
	case len(s.Line.Zones) != len(s.Title.Zones):
		return api.ErrArg
	}
	return api.OK
}

// leaves returns the pages of all sections, in order.
func (s Setup) leaves() []impose.Leaf {
	var leaves []impose.Leaf
	for _, section := range s.Job.Sections {
		leaves = append(leaves, section...)
	}
	return leaves
}

// hasColours reports whether just the pages with more than one colour need Colour. It relies on as many pages of the job as of the title.
func (s Setup) hasColours() bool {
	for page, leaf := range s.leaves() {
		if leaf.Colour != (s.Title.Colours[page] > 1) {
			return false
		}
	}
	return true
}

// hasNumbers reports whether no plate has too great a number.
func (s Setup) hasNumbers() bool {
	for _, zone := range s.Title.Zones {
		for page := range zone.Variants {
			if plateOf(page, zone.Variants) > api.MaxPages {
				return false
			}
		}
	}
	return true
}

// plateOf returns the number of the plate of a page of which these are the variants of all pages.
func plateOf(page int, variants []int) int {
	return 1 + page + len(variants)*variants[page]
}
