package plate

import (
	"iter"
	"slices"

	"foldhouse/api"
)

// checkSetters returns the error of tasks and of a number of setters.
func checkSetters(l []Task, setters int) api.Errno {
	if e := Check(l); e != api.OK {
		return e
	}
	if setters < 1 || setters > MaxSetters {
		return api.ErrArg
	}
	return api.OK
}

// byDue returns the slots of the tasks by due slots. If there is no schedule, some of them are too late.
func byDue(l []Task, setters int) []int {
	left := make([]int, len(l))
	for i := range l {
		left[i] = i
	}
	slices.SortStableFunc(left, func(a, b int) int { return l[a].Due - l[b].Due })
	slots := make([]int, len(l))
	for slot := 0; len(left) > 0; slot++ {
		slot = max(slot, firstReady(l, left))
		free := setters
		rest := left[:0]
		for _, i := range left {
			if free > 0 && l[i].Ready <= slot {
				slots[i] = slot
				free--
			} else {
				rest = append(rest, i)
			}
		}
		left = rest
	}
	return slots
}

// firstReady returns the first slot in which one of some tasks can be exposed.
func firstReady(l []Task, indices []int) int {
	slot := MaxSlot
	for _, i := range indices {
		slot = min(slot, l[i].Ready)
	}
	return slot
}

// areInTime reports whether each task has a slot from its Ready to its Due.
func areInTime(l []Task, slots []int) bool {
	for i, t := range l {
		if slots[i] < t.Ready || slots[i] > t.Due {
			return false
		}
	}
	return true
}

// haveRoom reports whether no slot has more tasks than there are setters.
func haveRoom(slots []int, setters int) bool {
	busy := map[int]int{}
	for _, slot := range slots {
		busy[slot]++
		if busy[slot] > setters {
			return false
		}
	}
	return true
}

// intervals yields the intervals that begin with the Ready of a task and end with the Due of one, by Lo and then by Hi.
func intervals(l []Task) iter.Seq[api.Span] {
	return func(yield func(api.Span) bool) {
		var readies, dues []int
		for _, t := range l {
			readies, dues = append(readies, t.Ready), append(dues, t.Due)
		}
		slices.Sort(readies)
		slices.Sort(dues)
		dues = slices.Compact(dues)
		for _, lo := range slices.Compact(readies) {
			for _, hi := range dues {
				if !yield(api.Span{Lo: lo, Hi: hi}) {
					return
				}
			}
		}
	}
}

// isOverloaded reports whether an interval is overloaded. It does not count the slots, of which there can be more than an int holds, but asks whether the interval ends before it has enough of them.
func isOverloaded(l []Task, setters int, s api.Span) bool {
	inside := 0
	for _, t := range l {
		if s.Lo <= t.Ready && t.Due <= s.Hi {
			inside++
		}
	}
	if inside == 0 {
		return false
	}
	enough := (inside + setters - 1) / setters
	return s.Hi < s.Lo+enough-1
}
