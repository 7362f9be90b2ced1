package fold

import "foldhouse/api"

// check returns the error of the run. The order of its parts is that of the errors, and each part relies on those before it.
func (w working) check() api.Errno {
	collected := func() api.Errno {
		if w.Collected && w.Webs[0].Rows != 2 {
			return api.ErrFold
		}
		return api.OK
	}
	for _, part := range []func() api.Errno{w.checkNumbers, w.checkWebs, w.checkRibbons, w.checkStacks, collected} {
		if e := part(); e != api.OK {
			return e
		}
	}
	return api.OK
}

func (w working) checkNumbers() api.Errno {
	allowed := func(n, most int) bool { return 1 <= n && n <= most }
	if !allowed(len(w.Webs), MaxWebs) || !allowed(len(w.Ribbons), MaxRibbons) || !allowed(len(w.Stacks), MaxStacks) {
		return api.ErrMany
	}
	return api.OK
}

func (w working) checkWebs() api.Errno {
	for _, web := range w.Webs {
		if web.Cols < 1 || web.Cols > maxCols || web.Rows < 1 || web.Rows > maxRows || web.Rows != w.Webs[0].Rows {
			return api.ErrRange
		}
		if len(web.Plates) != 2*web.Rows*web.Cols {
			return api.ErrRange
		}
		for _, plate := range web.Plates {
			if !isPage(plate.Page) {
				return api.ErrRange
			}
		}
	}
	return api.OK
}

func (w working) checkRibbons() api.Errno {
	var slit [MaxWebs][maxCols]bool
	for _, b := range w.Ribbons {
		if !w.fits(b) {
			return api.ErrFold
		}
		for col := b.Col; col < b.Col+b.Width; col++ {
			if slit[b.Web][col] {
				return api.ErrFold
			}
			slit[b.Web][col] = true
		}
	}
	for i, web := range w.Webs {
		for col := range web.Cols {
			if !slit[i][col] {
				return api.ErrFold
			}
		}
	}
	return api.OK
}

// fits reports whether a ribbon can be slit from its web.
func (w working) fits(b Ribbon) bool {
	if b.Web < 0 || b.Web >= len(w.Webs) || b.Width < 1 || b.Width > 2 {
		return false
	}
	if b.Width == 2 && b.Left {
		return false
	}
	return 0 <= b.Col && b.Col <= w.Webs[b.Web].Cols-b.Width
}

func (w working) checkStacks() api.Errno {
	var stacked [MaxRibbons]bool
	for _, stack := range w.Stacks {
		if len(stack) == 0 {
			return api.ErrFold
		}
		for _, ribbon := range stack {
			if ribbon < 0 || ribbon >= len(w.Ribbons) || stacked[ribbon] {
				return api.ErrFold
			}
			stacked[ribbon] = true
		}
	}
	for ribbon := range w.Ribbons {
		if !stacked[ribbon] {
			return api.ErrFold
		}
	}
	return api.OK
}

func isPage(page int) bool {
	return 0 <= page && page <= api.MaxPages
}

// hasPages reports whether each page of a product is allowed.
func hasPages(product [][]int) bool {
	for _, section := range product {
		for _, page := range section {
			if !isPage(page) {
				return false
			}
		}
	}
	return true
}
