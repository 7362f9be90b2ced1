package agent_test

import (
	"math"
	"math/rand"
	"slices"
	"testing"

	"foldhouse/agent"
	"foldhouse/api"
)

// reader is the subscriber of the chapter's example 4.
func reader() agent.Subscriber {
	return agent.Subscriber{Id: 1, To: 20, Days: 127, Holidays: []api.Span{{Lo: 5, Hi: 9}}}
}

// changed returns the subscriber of example 4, changed.
func changed(change func(s *agent.Subscriber)) agent.Subscriber {
	s := reader()
	change(&s)
	return s
}

// away returns the subscriber of example 4 with other holidays.
func away(l ...api.Span) agent.Subscriber {
	return changed(func(s *agent.Subscriber) { s.Holidays = l })
}

// holidays returns so many holidays of one day.
func holidays(n int) []api.Span {
	var l []api.Span
	for i := range n {
		l = append(l, api.Span{Lo: 2 * i, Hi: 2 * i})
	}
	return l
}

// anySubscriber returns a subscriber for some of so many days.
func anySubscriber(rnd *rand.Rand, id, days int) agent.Subscriber {
	s := agent.Subscriber{Id: id, From: rnd.Intn(days), Days: 1 + rnd.Intn(127)}
	s.To = s.From + rnd.Intn(days-s.From)
	for at := rnd.Intn(days); len(s.Holidays) < 20 && rnd.Intn(6) > 0 && at < days; {
		hi := min(at+rnd.Intn(8), agent.MaxDay)
		s.Holidays = append(s.Holidays, api.Span{Lo: at, Hi: hi})
		at = hi + 2 + rnd.Intn(10)
	}
	return s
}

// wordsOfGets says in the chapter's words whether a subscriber gets a copy.
func wordsOfGets(s agent.Subscriber, day int) bool {
	for _, h := range s.Holidays {
		if day >= h.Lo && day <= h.Hi {
			return false
		}
	}
	var bits [7]bool
	for i := range bits {
		bits[i] = s.Days>>i%2 == 1
	}
	return day >= s.From && day <= s.To && bits[day%7]
}

// subscriberCase is a subscriber that is not allowed, or one that is.
type subscriberCase struct {
	name  string
	s     agent.Subscriber
	right bool
}

func subscriberCases() []subscriberCase {
	l := []subscriberCase{
		{"zero", agent.Subscriber{}, false},
		{"example 4", reader(), true},
		{"no holidays", away(), true},
		{"empty holidays", away([]api.Span{}...), true},
		{"20 holidays", away(holidays(20)...), true},
		{"21 holidays", away(holidays(21)...), false},
		{"one day", changed(func(s *agent.Subscriber) { s.From, s.To = 20, 20 }), true},
		{"From after To", changed(func(s *agent.Subscriber) { s.From, s.To = 21, 20 }), false},
		{"all days", changed(func(s *agent.Subscriber) { s.From, s.To = 0, 20000 }), true},
		{"the last day", changed(func(s *agent.Subscriber) { s.From, s.To = 20000, 20000 }), true},
		{"a day too late", changed(func(s *agent.Subscriber) { s.To = 20001 }), false},
		{"days too late", changed(func(s *agent.Subscriber) { s.From, s.To = 20001, 20001 }), false},
		{"a day too early", changed(func(s *agent.Subscriber) { s.From = -1 }), false},
		{"days too early", changed(func(s *agent.Subscriber) { s.From, s.To = -2, -1 }), false},
		{"From far before", changed(func(s *agent.Subscriber) { s.From = math.MinInt }), false},
		{"To far behind", changed(func(s *agent.Subscriber) { s.To = math.MaxInt }), false},
	}
	for n, right := range map[int]bool{0: true, 1000000: true, -1: false, 1000001: false, math.MinInt: false, math.MaxInt: false} {
		l = append(l, subscriberCase{"Id", changed(func(s *agent.Subscriber) { s.Id = n }), right})
	}
	for n, right := range map[int]bool{1: true, 64: true, 126: true, 127: true, 0: false, -1: false, 128: false, math.MinInt: false, math.MaxInt: false} {
		l = append(l, subscriberCase{"Days", changed(func(s *agent.Subscriber) { s.Days = n }), right})
	}
	for _, holidays := range [][]api.Span{
		{{Lo: 0, Hi: 0}}, {{Lo: 0, Hi: 20000}}, {{Lo: 20000, Hi: 20000}}, {{Lo: 300, Hi: 310}},
		{{Lo: 5, Hi: 9}, {Lo: 11, Hi: 11}}, {{Lo: 0, Hi: 0}, {Lo: 2, Hi: 2}, {Lo: 4, Hi: 4}},
	} {
		l = append(l, subscriberCase{"holidays", away(holidays...), true})
	}
	for _, holidays := range [][]api.Span{
		{{Lo: -1, Hi: 3}}, {{Lo: 5, Hi: 4}}, {{Lo: 5, Hi: 20001}}, {{Lo: 20001, Hi: 20001}}, {{Lo: math.MinInt, Hi: math.MaxInt}},
		{{Lo: 5, Hi: 9}, {Lo: 10, Hi: 11}}, {{Lo: 5, Hi: 9}, {Lo: 9, Hi: 11}}, {{Lo: 5, Hi: 9}, {Lo: 6, Hi: 8}},
		{{Lo: 11, Hi: 12}, {Lo: 5, Hi: 9}}, {{Lo: 5, Hi: 9}, {Lo: 12, Hi: 11}}, {{Lo: 5, Hi: 9}, {Lo: 5, Hi: 9}},
		{{Lo: 5, Hi: math.MaxInt}, {Lo: 7, Hi: 8}}, {{Lo: 5, Hi: 9}, {Lo: math.MinInt, Hi: 11}},
	} {
		l = append(l, subscriberCase{"no holidays", away(holidays...), false})
	}
	return l
}

func expectCopies(t *testing.T, s agent.Subscriber, from, to, want int, wantE api.Errno) {
	t.Helper()
	if n, e := agent.Copies(s, from, to); n != want || e != wantE {
		t.Error("Copies", s, from, to, n, e)
	}
}

func expectGets(t *testing.T, s agent.Subscriber, day int, want bool, wantE api.Errno) {
	t.Helper()
	if is, e := agent.Gets(s, day); is != want || e != wantE {
		t.Error("Gets", s, day, is, e)
	}
}

func expectRound(t *testing.T, l []agent.Subscriber, day int, want []int, wantE api.Errno) {
	t.Helper()
	if ids, e := agent.Round(l, day); !slices.Equal(ids, want) || e != wantE {
		t.Error("Round", l, day, ids, e)
	}
}

// P11.4: which subscribers are allowed; their error comes before those of days.
func TestErrorOfSubscriber(t *testing.T) {
	other := agent.Subscriber{Id: 77, Days: 1}
	for _, c := range subscriberCases() {
		_, e := agent.Gets(c.s, 3)
		_, e1 := agent.Copies(c.s, 0, 100)
		_, e2 := agent.Round([]agent.Subscriber{other, c.s}, 3)
		_, e3 := agent.Carrier(agent.Tariff{}, []agent.Subscriber{other, c.s}, nil, 0, 100)
		want := api.ErrAgent
		if c.right {
			want = api.OK
		}
		for i, e := range []api.Errno{e, e1, e2, e3} {
			if e != want {
				t.Error(c.name, i, c.s, e)
			}
		}
		if !c.right {
			expectGets(t, c.s, 3, false, api.ErrAgent)
			expectGets(t, c.s, -1, false, api.ErrAgent)
			expectCopies(t, c.s, 0, 100, 0, api.ErrAgent)
			expectCopies(t, c.s, 2, 1, 0, api.ErrAgent)
			expectRound(t, []agent.Subscriber{reader(), c.s}, 3, nil, api.ErrAgent)
			expectRound(t, []agent.Subscriber{reader(), c.s}, -1, nil, api.ErrAgent)
		}
	}
}

// P11.4: days that are not in the range.
func TestErrorsOfDays(t *testing.T) {
	s := reader()
	for _, d := range []int{-1, 20001, math.MinInt, math.MaxInt} {
		expectGets(t, s, d, false, api.ErrRange)
		expectRound(t, []agent.Subscriber{s}, d, nil, api.ErrRange)
		expectRound(t, nil, d, nil, api.ErrRange)
		expectCopies(t, s, d, d, 0, api.ErrRange)
		expectCopies(t, s, d, 5, 0, api.ErrRange)
		expectCopies(t, s, 5, d, 0, api.ErrRange)
	}
	expectCopies(t, s, 6, 5, 0, api.ErrRange)
	expectCopies(t, s, 20000, 0, 0, api.ErrRange)
	expectCopies(t, s, 0, 20000, 16, api.OK)
	expectGets(t, s, 0, true, api.OK)
	expectGets(t, s, 20000, false, api.OK)
}

// P11.4: the errors of lists of subscribers, in their order.
func TestErrorsOfRound(t *testing.T) {
	var all []agent.Subscriber
	for i := range 500 {
		all = append(all, agent.Subscriber{Id: 1000 - i, Days: 1})
	}
	if ids, e := agent.Round(all, 0); e != api.OK || len(ids) != 500 || ids[0] != 1000 || ids[499] != 501 {
		t.Error(ids, e)
	}
	expectRound(t, append(slices.Clone(all), agent.Subscriber{Id: 1, Days: 1}), 0, nil, api.ErrMany)
	expectRound(t, make([]agent.Subscriber, 501), -1, nil, api.ErrMany)
	wrong, other := agent.Subscriber{Id: 1}, changed(func(s *agent.Subscriber) { s.Id = 2 })
	expectRound(t, []agent.Subscriber{reader(), other, reader()}, 0, nil, api.ErrTwice)
	expectRound(t, []agent.Subscriber{reader(), reader(), wrong}, -1, nil, api.ErrTwice)
	expectRound(t, []agent.Subscriber{reader(), wrong, reader()}, -1, nil, api.ErrAgent)
	expectRound(t, nil, 0, nil, api.OK)
	expectRound(t, []agent.Subscriber{}, 20000, nil, api.OK)
}

// P11.4: the days of subscribers; example 4.
func TestGets(t *testing.T) {
	for d := range 30 {
		expectGets(t, reader(), d, d <= 4 || d >= 10 && d <= 20, api.OK)
	}
	for bit := range 7 {
		s := agent.Subscriber{Id: 1, To: 20000, Days: 1 << bit}
		for _, d := range []int{0, 1, 2, 3, 4, 5, 6, 7, 13, 14, 19999, 20000} {
			expectGets(t, s, d, d%7 == bit, api.OK)
		}
		copies := 2857
		if bit < 2 {
			copies = 2858
		}
		expectCopies(t, s, 0, 20000, copies, api.OK)
	}
	expectCopies(t, reader(), 0, 100, 16, api.OK)
	expectCopies(t, reader(), 5, 9, 0, api.OK)
	expectCopies(t, reader(), 4, 10, 2, api.OK)
	expectCopies(t, reader(), 21, 20000, 0, api.OK)
	week := agent.Subscriber{Id: 2, From: 3, To: 30, Days: 1 + 4}
	expectCopies(t, week, 0, 100, 8, api.OK)
	expectCopies(t, week, 0, 6, 0, api.OK)
	expectCopies(t, week, 7, 9, 2, api.OK)
	expectRound(t, []agent.Subscriber{week, reader()}, 14, []int{2, 1}, api.OK)
	expectRound(t, []agent.Subscriber{reader(), week}, 14, []int{1, 2}, api.OK)
	expectRound(t, []agent.Subscriber{reader(), week}, 9, []int{2}, api.OK)
	expectRound(t, []agent.Subscriber{reader(), week}, 31, nil, api.OK)
}

// P11.4: the days of subscribers in the chapter's words.
func TestGetsAsTheWords(t *testing.T) {
	rnd := rand.New(rand.NewSource(31))
	got := 0
	for range 400 {
		s := anySubscriber(rnd, 5, 90)
		from := rnd.Intn(90)
		to := from + rnd.Intn(90)
		n := 0
		for d := range 200 {
			is := wordsOfGets(s, d)
			expectGets(t, s, d, is, api.OK)
			if is && d >= from && d <= to {
				n++
			}
		}
		expectCopies(t, s, from, to, n, api.OK)
		got += n
	}
	for range 20 {
		s := anySubscriber(rnd, 5, agent.MaxDay+1)
		n := 0
		for d := range agent.MaxDay + 1 {
			if wordsOfGets(s, d) {
				n++
			}
		}
		expectCopies(t, s, 0, agent.MaxDay, n, api.OK)
	}
	if got < 1000 {
		t.Error("not enough", got)
	}
}

// P11.6: the copies of a round, day by day, are the copies of all its subscribers; a holiday changes no other subscriber.
func TestRoundsAddUp(t *testing.T) {
	rnd := rand.New(rand.NewSource(32))
	for range 200 {
		var l []agent.Subscriber
		for i := range 1 + rnd.Intn(8) {
			l = append(l, anySubscriber(rnd, 100-i, 60))
		}
		other := slices.Clone(l)
		changedOne := rnd.Intn(len(l))
		other[changedOne].Holidays = []api.Span{{Lo: 0, Hi: 70}}
		sum := 0
		for d := range 70 {
			ids, e := agent.Round(l, d)
			if e != api.OK {
				t.Fatal(e)
			}
			sum += len(ids)
			var want []int
			for _, s := range l {
				if wordsOfGets(s, d) {
					want = append(want, s.Id)
				}
			}
			expectRound(t, l, d, want, api.OK)
			expectRound(t, other, d, slices.DeleteFunc(ids, func(id int) bool { return id == l[changedOne].Id }), api.OK)
		}
		for _, s := range l {
			n, _ := agent.Copies(s, 0, 69)
			sum -= n
		}
		if sum != 0 {
			t.Fatal(l, sum)
		}
	}
}
