package reel

import "foldhouse/api"

// within reports whether a number is from lo to hi.
func within(n, lo, hi int) bool { return lo <= n && n <= hi }

// hasNumbers reports whether a press has as many webs, and these as many reels, as are allowed.
func (p Press) hasNumbers() bool {
	if !within(len(p.Webs), 1, MaxWebs) {
		return false
	}
	for _, web := range p.Webs {
		if len(web.Reels) > MaxReels {
			return false
		}
	}
	return true
}

// rule tells whether a reel is allowed, and which error it has if not.
type rule struct {
	allows func(r Reel) bool
	code   api.Errno
}

// rules returns the rules of reels in the order of their errors. They remember the Ids of the reels that they were asked about.
func rules() []rule {
	met := map[int]bool{}
	return []rule{
		{func(r Reel) bool { return within(r.Id, 0, maxID) }, api.ErrReel},
		{func(r Reel) bool { return within(r.Width, 1, maxWidth) }, api.ErrReel},
		{func(r Reel) bool { return within(r.Length, 0, MaxLength) }, api.ErrReel},
		{func(r Reel) bool { return within(r.Core, 0, r.Length) }, api.ErrReel},
		{func(r Reel) bool {
			is := met[r.Id]
			met[r.Id] = true
			return !is
		}, api.ErrTwice},
	}
}

// checkReels returns the error of the first reel that is not allowed.
func checkReels(reels []Reel, allowed []rule) api.Errno {
	for _, r := range reels {
		for _, one := range allowed {
			if !one.allows(r) {
				return one.code
			}
		}
	}
	return api.OK
}

// checkCopies returns the error of a press, or of a number of copies that it is to print.
func checkCopies(p Press, copies int) api.Errno {
	if e := Check(p); e != api.OK {
		return e
	}
	if copies < 0 {
		return api.ErrRange
	}
	if copies > p.reach() {
		return api.ErrReel
	}
	return api.OK
}
