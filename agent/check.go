package agent

import "foldhouse/api"

// within reports whether a number is from lo to hi.
func within(n, lo, hi int) bool { return lo <= n && n <= hi }

// areDays reports whether two numbers are the first and the last one of some days.
func areDays(from, to int) bool { return within(from, 0, to) && to <= MaxDay }

func (d Day) isRight() bool {
	return within(d.Supply, 0, MaxSupply) && within(d.Returned, 0, d.Supply)
}

func (c costs) areRight() bool {
	return within(c.over, 0, maxCost) && within(c.under, 0, maxCost) && c != costs{}
}

func (m Method) isRight() bool {
	if m.Kind == ofLastDay {
		return m.Days == 1
	}
	return within(m.Kind, ofLastDay, greatestOfDays) && within(m.Days, 1, maxLooks)
}

func (o Order) isRight() bool {
	return within(o.Agent, 0, maxId) && within(o.Copies, 0, MaxSupply) && within(o.Least, 0, o.Copies)
}

func (s Subscriber) isRight() bool {
	return within(s.Id, 0, maxId) && areDays(s.From, s.To) && within(s.Days, 1, everyDay) && areHolidays(s.Holidays)
}

func areHolidays(l []api.Span) bool {
	if len(l) > maxHolidays {
		return false
	}
	first := 0
	for _, h := range l {
		if h.Lo < first || !areDays(h.Lo, h.Hi) {
			return false
		}
		// The day behind a holiday would adjoin it.
		first = h.Hi + 2
	}
	return true
}

func (t Tariff) isRight() bool {
	return within(t.Price, 0, maxPrice) && within(t.Back, 0, t.Price) && within(t.Late, 0, t.Price) &&
		within(t.Carry, 0, maxPrice) && within(t.Credit, 0, maxPrice)
}

// firstError returns an error for the first value of a list that is not right, or whose key was there before.
func firstError[V any, K comparable](l []V, isRight func(v V) bool, wrong api.Errno, key func(v V) K) api.Errno {
	met := map[K]bool{}
	for _, v := range l {
		if !isRight(v) {
			return wrong
		}
		if met[key(v)] {
			return api.ErrTwice
		}
		met[key(v)] = true
	}
	return api.OK
}

// checkMethods returns the first error of methods that are to be scored.
func checkMethods(l []Method, h []Day, c costs) api.Errno {
	if e := Check(h); e != api.OK {
		return e
	}
	if len(l) > maxMethods {
		return api.ErrMany
	}
	for _, m := range l {
		if !m.isRight() {
			return api.ErrArg
		}
	}
	if !c.areRight() {
		return api.ErrArg
	}
	return api.OK
}

// checkOrders returns the first error of orders, and of the copies that are to be shared.
func checkOrders(l []Order, copies int) api.Errno {
	if len(l) > MaxAgents {
		return api.ErrMany
	}
	if e := firstError(l, Order.isRight, api.ErrAgent, func(o Order) int { return o.Agent }); e != api.OK {
		return e
	}
	if copies < 0 {
		return api.ErrRange
	}
	for _, o := range l {
		copies -= o.Least
	}
	if copies < 0 {
		return api.ErrNone
	}
	return api.OK
}

func checkSubscribers(l []Subscriber) api.Errno {
	if len(l) > MaxList {
		return api.ErrMany
	}
	return firstError(l, Subscriber.isRight, api.ErrAgent, func(s Subscriber) int { return s.Id })
}

// checkComplaints returns the first error of complaints of subscribers about some days.
func checkComplaints(c []Complaint, l []Subscriber, from, to int) api.Errno {
	if len(c) > MaxList {
		return api.ErrMany
	}
	known := make(map[int]Subscriber, len(l))
	for _, s := range l {
		known[s.Id] = s
	}
	isDue := func(c Complaint) bool {
		s, is := known[c.Subscriber]
		return is && within(c.Day, from, to) && s.gets(c.Day)
	}
	return firstError(c, isDue, api.ErrNone, func(c Complaint) Complaint { return c })
}

// checkSettlement returns the first error of a settlement with an agent.
func checkSettlement(t Tariff, h []Day, late []int) api.Errno {
	if !t.isRight() {
		return api.ErrArg
	}
	if e := Check(h); e != api.OK {
		return e
	}
	if len(late) != len(h) {
		return api.ErrAgent
	}
	for i, d := range h {
		if !within(late[i], 0, d.Returned) {
			return api.ErrAgent
		}
	}
	return api.OK
}
