package impose

import "slices"

// hasNumbers reports whether the numbers of towers, sections and panoramas are allowed.
func hasNumbers(j Job) bool {
	if len(j.Towers) < 1 || len(j.Towers) > MaxTowers {
		return false
	}
	if len(j.Sections) < 1 || len(j.Sections) > MaxStacks*parts(j) {
		return false
	}
	return len(j.Panoramas) <= MaxPanoramas
}

func hasTowers(j Job) bool {
	for _, t := range j.Towers {
		if t.Cols < 1 || t.Cols > maxCols {
			return false
		}
		for _, side := range t.Colour {
			if len(side) != t.Cols {
				return false
			}
		}
	}
	return true
}

func hasSections(j Job) bool {
	if j.Collected && j.Rows != 2 || len(j.Sections)%parts(j) != 0 {
		return false
	}
	for i, section := range j.Sections {
		if len(section) < minSection || len(section) > MaxSection {
			return false
		}
		if len(section) != len(j.Sections[i-i%parts(j)]) {
			return false
		}
	}
	return true
}

func hasPanoramas(j Job) bool {
	for _, p := range j.Panoramas {
		if p.Section < 0 || p.Section >= len(j.Sections) {
			return false
		}
		if p.Index < 0 || p.Index >= len(j.Sections[p.Section])-1 {
			return false
		}
	}
	return true
}

// parts returns how many sections of a copy a stack prints.
func parts(j Job) int {
	if j.Collected {
		return 2
	}
	return 1
}

// columns returns how many columns a job needs at least.
func columns(j Job) int {
	pages := 0
	for i := 0; i < len(j.Sections); i += parts(j) {
		pages += len(j.Sections[i])
	}
	return (pages + 1) / 2
}

// clone returns a job that shares no memory with j.
func clone(j Job) Job {
	out := Job{Rows: j.Rows, Collected: j.Collected, Panoramas: slices.Clone(j.Panoramas)}
	for _, t := range j.Towers {
		for side := range t.Colour {
			t.Colour[side] = slices.Clone(t.Colour[side])
		}
		out.Towers = append(out.Towers, t)
	}
	for _, section := range j.Sections {
		out.Sections = append(out.Sections, slices.Clone(section))
	}
	return out
}
