package agent_test

import (
	"math"
	"math/big"
	"math/rand"
	"slices"
	"testing"

	"foldhouse/agent"
	"foldhouse/api"
)

// methodCases are methods with whether they are allowed.
func methodCases() map[agent.Method]bool {
	l := map[agent.Method]bool{{}: false, {Kind: 1, Days: 1}: true}
	for _, days := range []int{math.MinInt, -1, 0, 2, 60, math.MaxInt} {
		l[agent.Method{Kind: 1, Days: days}] = false
	}
	for kind := 2; kind <= 4; kind++ {
		for _, days := range []int{1, 2, 59, 60} {
			l[agent.Method{Kind: kind, Days: days}] = true
		}
		for _, days := range []int{math.MinInt, -1, 0, 61, math.MaxInt} {
			l[agent.Method{Kind: kind, Days: days}] = false
		}
	}
	for _, kind := range []int{math.MinInt, -1, 0, 5, math.MaxInt} {
		l[agent.Method{Kind: kind, Days: 1}] = false
	}
	return l
}

// wordsOfMethod is what a method says in the chapter's words.
func wordsOfMethod(m agent.Method, h []agent.Day, day int) (int, bool) {
	sum, most := 0, 0
	apart := map[int]int{1: 1, 2: 1, 3: 7, 4: 1}[m.Kind]
	for i := 1; i <= m.Days; i++ {
		before := day - apart*i
		if before < 0 {
			return 0, false
		}
		sold := h[before].Supply - h[before].Returned
		sum += sold
		most = max(most, sold)
	}
	if m.Kind == 4 {
		return most, true
	}
	return int(math.Ceil(float64(sum) / float64(m.Days))), true
}

func expectSays(t *testing.T, m agent.Method, h []agent.Day, day, want int, ok bool, wantE api.Errno) {
	t.Helper()
	if n, is, e := agent.Says(m, h, day); n != want || is != ok || e != wantE {
		t.Error("Says", m, h, day, n, is, e)
	}
}

func method(kind, days int) agent.Method { return agent.Method{Kind: kind, Days: days} }

func anyMethod(rnd *rand.Rand, most int) agent.Method {
	m := method(1+rnd.Intn(4), 1+rnd.Intn(most))
	if m.Kind == 1 {
		m.Days = 1
	}
	return m
}

// P11.2: what methods say; example 2.
func TestSays(t *testing.T) {
	h := []agent.Day{day(8, 0), day(11, 1), day(9, 2)}
	for _, c := range []struct {
		m         agent.Method
		day, want int
		ok        bool
	}{
		{method(2, 3), 3, 9, true}, {method(4, 3), 3, 10, true}, {method(1, 1), 3, 7, true},
		{method(1, 1), 0, 0, false}, {method(1, 1), 1, 8, true}, {method(1, 1), 2, 10, true},
		{method(2, 1), 2, 10, true}, {method(2, 2), 2, 9, true}, {method(2, 2), 3, 9, true}, {method(2, 2), 1, 0, false},
		{method(2, 3), 2, 0, false}, {method(4, 2), 3, 10, true}, {method(4, 1), 3, 7, true}, {method(4, 4), 3, 0, false},
		{method(3, 1), 3, 0, false},
	} {
		expectSays(t, c.m, h, c.day, c.want, c.ok, api.OK)
	}
	expectSays(t, method(1, 1), nil, 0, 0, false, api.OK)
	expectSays(t, method(2, 2), []agent.Day{day(5, 5), day(0, 0)}, 2, 0, true, api.OK)
	weeks := make([]agent.Day, 15)
	weeks[0], weeks[7], weeks[14] = day(30, 1), day(20, 0), day(15, 7)
	expectSays(t, method(3, 1), weeks, 6, 0, false, api.OK)
	expectSays(t, method(3, 1), weeks, 7, 29, true, api.OK)
	expectSays(t, method(3, 2), weeks, 13, 0, false, api.OK)
	expectSays(t, method(3, 2), weeks, 14, 25, true, api.OK)
	expectSays(t, method(3, 1), weeks, 14, 20, true, api.OK)
	expectSays(t, method(3, 2), weeks, 15, 0, true, api.OK)
}

// P11.2: what methods say, in the chapter's words, for all days; what the day itself and later ones have does not matter.
func TestSaysAsTheWords(t *testing.T) {
	rnd := rand.New(rand.NewSource(11))
	said := 0
	for range 600 {
		h, m := anyHistory(rnd, rnd.Intn(60), 50), anyMethod(rnd, 1+rnd.Intn(20))
		for d := range len(h) + 1 {
			want, ok := wordsOfMethod(m, h, d)
			expectSays(t, m, h, d, want, ok, api.OK)
			expectSays(t, m, slices.Concat(h[:d], anyHistory(rnd, 2, 9)), d, want, ok, api.OK)
			if ok {
				said++
			}
		}
	}
	long := anyHistory(rnd, 400, 10000)
	for _, m := range []agent.Method{method(2, 60), method(3, 57), method(3, 60), method(4, 60)} {
		want, ok := wordsOfMethod(m, long, 400)
		expectSays(t, m, long, 400, want, ok, api.OK)
	}
	if said < 3000 {
		t.Error("not enough", said)
	}
}

// P11.2: the errors of methods, in their order.
func TestErrorsOfMethods(t *testing.T) {
	h := example()
	for m, right := range methodCases() {
		want := api.ErrArg
		if right {
			want = api.OK
		}
		if _, _, e := agent.Says(m, make([]agent.Day, 400), 0); e != want {
			t.Error("Says", m, e)
		}
		if right {
			continue
		}
		expectSays(t, m, h, 1, 0, false, api.ErrArg)
		expectSays(t, m, h, -1, 0, false, api.ErrArg)
		expectRate(t, m, h, 1, 1, agent.Score{}, api.ErrArg)
		expectRate(t, m, nil, 1, 1, agent.Score{}, api.ErrArg)
		expectChoose(t, []agent.Method{method(1, 1), m}, h, 1, 1, 0, agent.Score{}, api.ErrArg)
		expectChoose(t, []agent.Method{m}, nil, 0, 0, 0, agent.Score{}, api.ErrArg)
	}
	for _, d := range []int{-1, 4, math.MinInt, math.MaxInt} {
		expectSays(t, method(1, 1), h, d, 0, false, api.ErrRange)
		expectSays(t, method(4, 60), h, d, 0, false, api.ErrRange)
	}
	for _, c := range wrongCosts {
		expectRate(t, method(1, 1), h, c[0], c[1], agent.Score{}, api.ErrArg)
		expectRate(t, method(2, 60), h, c[0], c[1], agent.Score{}, api.ErrArg)
		expectChoose(t, []agent.Method{method(1, 1)}, h, c[0], c[1], 0, agent.Score{}, api.ErrArg)
		expectChoose(t, nil, h, c[0], c[1], 0, agent.Score{}, api.ErrArg)
	}
}

func expectRate(t *testing.T, m agent.Method, h []agent.Day, over, under int, want agent.Score, wantE api.Errno) {
	t.Helper()
	if s, e := agent.Rate(m, h, over, under); s != want || e != wantE {
		t.Error("Rate", m, h, over, under, s, e)
	}
}

func expectChoose(t *testing.T, l []agent.Method, h []agent.Day, over, under, want int, score agent.Score, wantE api.Errno) {
	t.Helper()
	if i, s, e := agent.Choose(l, h, over, under); i != want || s != score || e != wantE {
		t.Error("Choose", l, h, over, under, i, s, e)
	}
}

// wordsOfScore is a score in the chapter's words.
func wordsOfScore(m agent.Method, h []agent.Day, over, under int) (agent.Score, bool) {
	days, sum := 0, 0
	for d := range h {
		if q, ok := wordsOfMethod(m, h, d); ok {
			days++
			sum += wordsOfLoss(h[d], q, over, under)
		}
	}
	if days == 0 {
		return agent.Score{}, false
	}
	r := big.NewRat(int64(sum), int64(days))
	return agent.Score{Days: days, Loss: api.Ratio{N: int(r.Num().Int64()), D: int(r.Denom().Int64())}}, true
}

func score(days, n, d int) agent.Score {
	return agent.Score{Days: days, Loss: api.Ratio{N: n, D: d}}
}

// P11.2: scores of methods.
func TestRate(t *testing.T) {
	// What was sold: 8, at least 10, 7. The last day's number is 2 too few, then 3 too many.
	expectRate(t, method(1, 1), example(), 1, 2, score(2, 7, 2), api.OK)
	expectRate(t, method(1, 1), example(), 2, 3, score(2, 6, 1), api.OK)
	expectRate(t, method(2, 2), example(), 1, 2, score(1, 2, 1), api.OK)
	expectRate(t, method(4, 1), example(), 0, 1, score(2, 1, 1), api.OK)
	expectRate(t, method(1, 1), slices.Repeat([]agent.Day{day(7, 2)}, 5), 1, 2, score(4, 0, 1), api.OK)
	expectRate(t, method(2, 3), example(), 1, 2, agent.Score{}, api.ErrNone)
	expectRate(t, method(3, 1), make([]agent.Day, 7), 1, 2, agent.Score{}, api.ErrNone)
	expectRate(t, method(3, 1), make([]agent.Day, 8), 1, 2, score(1, 0, 1), api.OK)
	expectRate(t, method(1, 1), nil, 1, 2, agent.Score{}, api.ErrNone)
	expectRate(t, method(1, 1), slices.Repeat([]agent.Day{day(10000, 0), day(10000, 10000)}, 200), 1000, 1000, score(399, 10000000, 1), api.OK)
}

// P11.2: the first one of the methods with the least score, of those that say something.
func TestChoose(t *testing.T) {
	h := example()
	expectChoose(t, []agent.Method{method(1, 1), method(2, 2)}, h, 1, 2, 1, score(1, 2, 1), api.OK)
	expectChoose(t, []agent.Method{method(2, 2), method(1, 1)}, h, 1, 2, 0, score(1, 2, 1), api.OK)
	expectChoose(t, []agent.Method{method(2, 3), method(2, 1), method(1, 1)}, h, 1, 2, 1, score(2, 7, 2), api.OK)
	expectChoose(t, []agent.Method{method(2, 3), method(3, 1)}, h, 1, 2, 0, agent.Score{}, api.ErrNone)
	expectChoose(t, nil, h, 1, 2, 0, agent.Score{}, api.ErrNone)
	expectChoose(t, []agent.Method{method(1, 1)}, nil, 1, 2, 0, agent.Score{}, api.ErrNone)
	// The same score over fewer days is no better.
	same := []agent.Day{day(6, 1), day(6, 1), day(6, 1), day(6, 1)}
	expectChoose(t, []agent.Method{method(2, 3), method(1, 1)}, same, 1, 1, 0, score(1, 0, 1), api.OK)
	expectChoose(t, []agent.Method{method(1, 1), method(2, 3)}, same, 1, 1, 0, score(3, 0, 1), api.OK)
	forty := slices.Repeat([]agent.Method{method(2, 3)}, 39)
	expectChoose(t, append(forty, method(1, 1)), h, 1, 2, 39, score(2, 7, 2), api.OK)
	expectChoose(t, slices.Repeat([]agent.Method{method(1, 1)}, 41), h, 1, 2, 0, agent.Score{}, api.ErrMany)
	expectChoose(t, make([]agent.Method, 41), nil, 0, 0, 0, agent.Score{}, api.ErrMany)
}

// P11.2: scores in the chapter's words, and the least of them.
func TestScoresAsTheWords(t *testing.T) {
	rnd := rand.New(rand.NewSource(12))
	chosen := map[int]int{}
	for range 2000 {
		h, over, under := anyHistory(rnd, rnd.Intn(40), 1+rnd.Intn(30)), rnd.Intn(5), 1+rnd.Intn(5)
		var l []agent.Method
		best, least := -1, agent.Score{}
		for i := range rnd.Intn(7) {
			m := anyMethod(rnd, 6)
			l = append(l, m)
			s, ok := wordsOfScore(m, h, over, under)
			if !ok {
				expectRate(t, m, h, over, under, agent.Score{}, api.ErrNone)
				continue
			}
			expectRate(t, m, h, over, under, s, api.OK)
			if best < 0 || big.NewRat(int64(s.Loss.N), int64(s.Loss.D)).Cmp(big.NewRat(int64(least.Loss.N), int64(least.Loss.D))) < 0 {
				best, least = i, s
			}
		}
		if best < 0 {
			expectChoose(t, l, h, over, under, 0, agent.Score{}, api.ErrNone)
		} else {
			expectChoose(t, l, h, over, under, best, least, api.OK)
		}
		chosen[best]++
	}
	if len(chosen) < 7 {
		t.Error("not enough", chosen)
	}
}
