package edition

import (
	"slices"

	"foldhouse/api"
)

// check returns the first error of a title, but for those of its editions.
func check(t Title) api.Errno {
	switch {
	case !hasNumbers(t):
		return api.ErrMany
	case !hasTimes(t):
		return api.ErrRange
	case !hasPages(t):
		return api.ErrPage
	}
	if e := checkZones(t); e != api.OK {
		return e
	}
	return checkReady(t)
}

// within reports whether a number is from lo to hi.
func within(n, lo, hi int) bool { return lo <= n && n <= hi }

func isVariant(n int) bool { return within(n, 0, variants-1) }

// hasNumbers reports whether the numbers of pages, zones and Ready are allowed.
func hasNumbers(t Title) bool {
	return within(len(t.Colours), 1, MaxPages) && within(len(t.Zones), 1, api.MaxZones) && len(t.Ready) <= MaxReady
}

func hasTimes(t Title) bool {
	return within(t.Start, 0, MaxTime) && within(t.Rate, 1, maxRate) && within(t.Stop, 0, maxPause) && within(t.Hang, 0, maxPause)
}

// hasPages reports whether the colours and the panoramas are allowed.
func hasPages(t Title) bool {
	for _, colours := range t.Colours {
		if !within(colours, 1, maxColours) {
			return false
		}
	}
	var taken [MaxPages]bool
	for _, page := range t.Pairs {
		if !within(page, 0, len(t.Colours)-2) || t.Colours[page] != t.Colours[page+1] {
			return false
		}
		if taken[page] || taken[page+1] {
			return false
		}
		taken[page], taken[page+1] = true, true
	}
	return true
}

func checkZones(t Title) api.Errno {
	for _, zone := range t.Zones {
		if !within(zone.Copies, 0, api.MaxCopies) || !within(zone.Due, 0, MaxTime) {
			return api.ErrRange
		}
		if len(zone.Variants) != len(t.Colours) {
			return api.ErrEdition
		}
		if slices.ContainsFunc(zone.Variants, func(variant int) bool { return !isVariant(variant) }) {
			return api.ErrEdition
		}
	}
	return api.OK
}

func checkReady(t Title) api.Errno {
	var named [MaxPages][variants]bool
	for _, ready := range t.Ready {
		if !within(ready.Page, 0, len(t.Colours)-1) || !isVariant(ready.Variant) || !within(ready.At, 0, MaxTime) {
			return api.ErrRange
		}
		if named[ready.Page][ready.Variant] {
			return api.ErrTwice
		}
		named[ready.Page][ready.Variant] = true
	}
	return api.OK
}
