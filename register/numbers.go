package register

// within reports whether a number is from lo to hi.
func within(n, lo, hi int) bool { return lo <= n && n <= hi }

// areWithin reports whether all numbers of a list are from -limit to limit.
func areWithin(limit int, l ...int) bool { return farthest(l...) <= uint(limit) }

// farthest returns the maximum of how far numbers are from 0. It has no sign, as there is no int as far from 0 as the least one.
func farthest(l ...int) uint {
	var most uint
	for _, n := range l {
		if n < 0 {
			most = max(most, -uint(n))
		} else {
			most = max(most, uint(n))
		}
	}
	return most
}
