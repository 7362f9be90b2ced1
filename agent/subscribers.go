package agent

import "math/bits"

// everyDay has a bit for each weekday.
const everyDay = 1<<week - 1

// gets reports whether a subscriber gets a copy on a day.
func (s Subscriber) gets(day int) bool { return s.copies(day, day) > 0 }

// copies returns how many copies a subscriber gets from a day to another one.
func (s Subscriber) copies(from, to int) int {
	from, to = max(from, s.From), min(to, s.To)
	n := s.weekdays(from, to)
	for _, h := range s.Holidays {
		n -= s.weekdays(max(from, h.Lo), min(to, h.Hi))
	}
	return n
}

// weekdays returns how many of the days from a day to another one have a weekday of the subscriber.
func (s Subscriber) weekdays(from, to int) int {
	if from > to {
		return 0
	}
	return s.weekdaysBefore(to+1) - s.weekdaysBefore(from)
}

func (s Subscriber) weekdaysBefore(day int) int {
	days := uint(s.Days)
	var begun uint = 1<<(day%week) - 1
	return day/week*bits.OnesCount(days) + bits.OnesCount(days&begun)
}
