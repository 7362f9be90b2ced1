package mail

// never is the number of layers of a stack that there is not.
const never = MaxStack + 1

// stacker knows how many layers are still to be begun, when so many copies are left, and the layer that is being laid leans so far its own way. As the limits are the same either way, it does not matter which way this is.
type stacker struct {
	copies, limit, end int
	more               [][]int
}

func newStacker(copies, limit, end int) *stacker {
	s := &stacker{copies: copies, limit: limit, end: end}
	for left := range copies {
		row := make([]int, 2*limit+1)
		for i := range row {
			row[i] = s.least(left, i-limit)
		}
		s.more = append(s.more, row)
	}
	return s
}

// least returns the fewest layers still to be begun: none, if this lean is right at the end, or those when the next copy goes on with the layer or begins another one.
func (s *stacker) least(left, lean int) int {
	switch {
	case left > 0:
		return min(s.after(left-1, lean+1), s.turned(left, lean))
	case within(lean, -s.end, s.end):
		return 0
	}
	return never
}

// after returns how many layers are still to be begun from a lean, which may be beyond the limit.
func (s *stacker) after(left, lean int) int {
	if !within(lean, -s.limit, s.limit) {
		return never
	}
	return s.more[left][lean+s.limit]
}

// turned returns how many layers are still to be begun if the next copy begins one. Its way is the other one.
func (s *stacker) turned(left, lean int) int {
	return min(1+s.after(left-1, 1-lean), never)
}

// fewest returns the fewest layers of a right stack.
func (s *stacker) fewest() int { return s.turned(s.copies, 0) }

// layers returns the lesser one of the right stacks with the fewest layers: each layer ends as early as it can.
func (s *stacker) layers() []int {
	layers, lean := []int{1}, 1
stack:
	for left := s.copies - 1; ; left-- {
		switch {
		case left == 0:
			break stack
		case s.turned(left, lean) == s.after(left, lean):
			layers, lean = append(layers, 1), 1-lean
		default:
			layers[len(layers)-1]++
			lean++
		}
	}
	return layers
}

// isStraight reports whether a stack never leans more than the limit, and at the end not more than this.
func isStraight(layers []int, limit, end int) bool {
	lean, way := 0, 1
	for _, layer := range layers {
		lean, way = lean+way*layer, -way
		if !within(lean, -limit, limit) {
			return false
		}
	}
	return within(lean, -end, end)
}
