package press

import "slices"

// reached is a press at work with the program that led to it.
type reached struct {
	working
	program []Action
}

// search returns presses that programs lead to, one for each situation, with the first one of its shortest programs. It ends with the first press that is sought. Shorter programs come first, and of equally long ones those that are less, as actions are tried in their order.
func (w working) search(sought func(w working) bool) []reached {
	list := []reached{{working: w}}
	if sought(w) {
		return list
	}
	met := map[situation]bool{w.situation(): true}
search:
	for i := 0; i < len(list); i++ {
		before := list[i]
		for a := range before.allowed() {
			next := before.after(a)
			at := next.situation()
			if met[at] {
				continue
			}
			met[at] = true
			list = append(list, reached{next, append(slices.Clone(before.program), a)})
			if sought(next) {
				break search
			}
		}
	}
	return list
}

// find returns the first one of the shortest programs that lead to a goal, and whether there is one.
func (w working) find(g Goal) ([]Action, bool) {
	list := w.search(func(w working) bool { return w.fulfils(g) })
	last := list[len(list)-1]
	if !last.fulfils(g) {
		return nil, false
	}
	return last.program, true
}

// refutes reports whether codes have that of the press, none of a state that fulfils a goal, and all to which actions lead.
func (w working) refutes(g Goal, codes []int) bool {
	codes = slices.Compact(slices.Sorted(slices.Values(codes)))
	has := func(w working) bool {
		_, is := slices.BinarySearch(codes, w.situation().code())
		return is
	}
	if !has(w) {
		return false
	}
	for _, code := range codes {
		s, is := decode(code, len(w.Units))
		if !is || !s.isSafe() || s.fulfils(g) {
			return false
		}
		before := working{Press: w.Press, State: s, rules: w.rules}
		for a := range before.allowed() {
			if !has(before.after(a)) {
				return false
			}
		}
	}
	return true
}
