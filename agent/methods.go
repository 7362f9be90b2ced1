package agent

import (
	"iter"
	"slices"

	"foldhouse/api"
)

// Kinds of methods.
const (
	ofLastDay      = 1
	meanOfDays     = 2
	meanOfWeekdays = 3
	greatestOfDays = 4
)

const week = 7

// sales are what was sold on some days, the last one first.
type sales []int

func (s sales) last() int { return s[0] }

// mean returns the mean, rounded up.
func (s sales) mean() int {
	sum := 0
	for _, sold := range s {
		sum += sold
	}
	return (sum + len(s) - 1) / len(s)
}

func (s sales) greatest() int { return slices.Max(s) }

// apart returns how many days apart the days are at which a method looks.
func (m Method) apart() int {
	if m.Kind == meanOfWeekdays {
		return week
	}
	return 1
}

// looks yields the days at which a method looks to say something of a day, the last one first.
func (m Method) looks(day int) iter.Seq[int] {
	return func(yield func(before int) bool) {
		for i := range m.Days {
			if !yield(day - (i+1)*m.apart()) {
				return
			}
		}
	}
}

// says returns what a method says of a day, if there are enough days before it.
func (m Method) says(h []Day, day int) (int, bool) {
	if day < m.Days*m.apart() {
		return 0, false
	}
	var looked sales
	for before := range m.looks(day) {
		looked = append(looked, h[before].sold())
	}
	kinds := [...]func(sales) int{
		ofLastDay:      sales.last,
		meanOfDays:     sales.mean,
		meanOfWeekdays: sales.mean,
		greatestOfDays: sales.greatest,
	}
	return kinds[m.Kind](looked), true
}

// score returns the score of a method, if it says something of a day of the history.
func (m Method) score(h []Day, c costs) (Score, bool) {
	days, losses := 0, 0
	for day, d := range h {
		if q, says := m.says(h, day); says {
			days++
			losses += c.loss(d, q)
		}
	}
	if days == 0 {
		return Score{}, false
	}
	return Score{Days: days, Loss: lowest(losses, days)}, true
}

// rated is a method of a list with its score.
type rated struct {
	method int
	Score
}

func (r rated) compare(other rated) int {
	return compareParts(r.Loss.N, r.Loss.D, other.Loss.N, other.Loss.D)
}

// lowest returns a fraction in lowest terms; d is above 0.
func lowest(n, d int) api.Ratio {
	a, b := n, d
	for b != 0 {
		a, b = b, a%b
	}
	return api.Ratio{N: n / a, D: d / a}
}
