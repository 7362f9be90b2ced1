package works_test

import (
	"reflect"
	"slices"
	"testing"

	"foldhouse/api"
	"foldhouse/books"
	"foldhouse/count"
	"foldhouse/edition"
	"foldhouse/fold"
	"foldhouse/impose"
	"foldhouse/mail"
	"foldhouse/plate"
	"foldhouse/press"
	"foldhouse/reel"
	"foldhouse/works"
)

// model is a night by the words of the chapter. It has the cause of each copy, and the place in the order of its edition.
type model struct {
	works.Setup
	order         []int
	plan          impose.Plan
	at            int
	hung          bool
	mailed, shut  bool
	rack          *plate.Rack
	state         press.State
	causes, place []int
	bundles       []mail.Bundle
	entries       []books.Signed
}

func newModel(s works.Setup) *model {
	m := &model{Setup: s}
	m.order, _, _ = edition.Best(s.Title)
	m.plan, _, _ = impose.Least(s.Job)
	m.state, _ = press.Begin(s.Press)
	return m
}

// do carries out an order, or returns the error that the chapter names first.
func (m *model) do(o works.Order) (int, api.Errno) {
	switch o.Kind {
	case 1:
		return m.hang()
	case 2:
		return m.start()
	case 3:
		return m.print(o.N)
	case 4:
		return m.tear(o.N)
	case 5:
		return m.reach(press.Goal{Pressed: make([]bool, len(m.state.Units))})
	case 6:
		return m.next()
	case 7:
		return m.mail(o.Faults)
	case 8:
		return m.close(o.N, o.Counted)
	case 9:
		return m.wash(o.N)
	}
	return 0, api.ErrCommand
}

func (m *model) isDone() bool { return m.at == len(m.order) }

// edition returns the edition at a place of the order.
func (m *model) edition(place int) edition.Edition {
	l, _ := edition.Editions(m.Title)
	return l[m.order[place]]
}

// run returns the run of the plan, each of whose pages has the number of its plate in the edition.
func (m *model) run(place int) fold.Run {
	run, _ := impose.Build(m.Job, m.plan)
	variants := m.edition(place).Variants
	for _, web := range run.Webs {
		for i, x := range web.Plates {
			p := x.Page - 1
			web.Plates[i].Page = 1 + p + len(m.Title.Colours)*variants[p]
		}
	}
	return run
}

// product returns what each copy of an edition is to have.
func (m *model) product(place int) [][]int {
	var product [][]int
	p, variants := 0, m.edition(place).Variants
	for _, section := range m.Job.Sections {
		product = append(product, nil)
		for range section {
			last := len(product) - 1
			product[last] = append(product[last], 1+p+len(m.Title.Colours)*variants[p])
			p++
		}
	}
	return product
}

func (m *model) hang() (int, api.Errno) {
	if m.isDone() || m.hung {
		return 0, api.ErrOrder
	}
	if m.state.Drive != press.Stopped {
		return 0, api.ErrGuard
	}
	run := m.run(m.at)
	if m.rack == nil {
		m.rack, _ = plate.New(run)
	}
	m.rack.Change(run)
	wrong, _ := m.rack.Wrong()
	for _, spot := range wrong {
		items, _ := m.rack.Items()
		for i, x := range items {
			if x.State == plate.Hung && x.Spot == spot {
				m.rack.Act(plate.Order{Kind: plate.Take, Plate: i})
				m.rack.Act(plate.Order{Kind: plate.Scrap, Plate: i})
			}
		}
	}
	missing, _ := m.rack.Missing()
	for _, spot := range missing {
		place, _ := fold.Follow(run, spot)
		i, _ := m.rack.Act(plate.Order{Kind: plate.Burn, Page: m.product(m.at)[place.Section][place.Index]})
		m.rack.Act(plate.Order{Kind: plate.Bend, Plate: i})
		m.rack.Act(plate.Order{Kind: plate.Hang, Plate: i, Spot: spot})
	}
	m.hung = true
	return len(missing), api.OK
}

func (m *model) goal() press.Goal {
	g := press.Goal{Drive: press.Running, Pressed: make([]bool, len(m.plan.Cols))}
	for i, n := range m.plan.Cols {
		g.Pressed[i] = n != 0
	}
	return g
}

func (m *model) isPrinting() bool {
	if m.state.Drive != press.Running {
		return false
	}
	for i, u := range m.state.Units {
		if u.Pressed != (m.plan.Cols[i] != 0) {
			return false
		}
	}
	return true
}

// act carries out actions one by one.
func (m *model) act(l []press.Action) (int, api.Errno) {
	s := m.state
	for _, a := range l {
		var e api.Errno
		if s, e = press.Do(m.Press, s, a); e != api.OK {
			return 0, e
		}
	}
	m.state = s
	return len(l), api.OK
}

func (m *model) reach(g press.Goal) (int, api.Errno) {
	l, e := press.Find(m.Press, m.state, g)
	if e != api.OK {
		return 0, e
	}
	return m.act(l)
}

func (m *model) start() (int, api.Errno) {
	if !m.hung {
		return 0, api.ErrOrder
	}
	return m.reach(m.goal())
}

func (m *model) wash(unit int) (int, api.Errno) {
	if m.state.Drive != press.Stopped {
		return 0, api.ErrGuard
	}
	if unit < 0 || unit >= len(m.state.Units) {
		return 0, api.ErrArg
	}
	l := []press.Action{{Kind: press.Open, Unit: unit}, {Kind: press.Cut, Unit: unit}, {Kind: press.Close, Unit: unit}, {Kind: press.Crawl}, {Kind: press.Wash, Unit: unit}, {Kind: press.Stop}}
	if !m.state.Units[unit].Threaded {
		l = l[3:]
	}
	return m.act(l)
}

// isSpliced reports whether a copy is thrown out for a splice.
func (m *model) isSpliced(copy int) bool {
	reach, _ := reel.Reach(m.Paper)
	l, _ := reel.Thrown(m.Paper, reach)
	return slices.ContainsFunc(l, func(s api.Span) bool { return s.Lo <= copy && copy <= s.Hi })
}

// good returns how many good copies the edition at a place has.
func (m *model) good(place int) int {
	n := 0
	for i, cause := range m.causes {
		if cause == 0 && m.place[i] == place {
			n++
		}
	}
	return n
}

func (m *model) print(n int) (int, api.Errno) {
	reach, _ := reel.Reach(m.Paper)
	switch {
	case n < 0 || n > 10000:
		return 0, api.ErrRange
	case !m.hung:
		return 0, api.ErrOrder
	case !m.isPrinting():
		return 0, api.ErrGuard
	case len(m.causes)+n > reach:
		return 0, api.ErrReel
	}
	before := len(m.causes)
	for len(m.causes) < before+n && m.good(m.at) < m.edition(m.at).Copies {
		cause := 0
		if m.isSpliced(len(m.causes)) {
			cause = 3
		}
		state, waste, _ := press.Print(m.Press, m.state, 1)
		if len(waste) > 0 {
			cause = waste[0].Cause
		}
		m.state, m.causes, m.place = state, append(m.causes, cause), append(m.place, m.at)
	}
	return len(m.causes) - before, api.OK
}

func (m *model) tear(unit int) (int, api.Errno) {
	state, lost, e := press.Break(m.Press, m.state, unit)
	if e != api.OK {
		return 0, e
	}
	m.state = state
	for i := range lost {
		if last := len(m.causes) - 1 - i; m.causes[last] == 0 {
			m.causes[last] = 9
		}
	}
	return lost, api.OK
}

func (m *model) next() (int, api.Errno) {
	switch {
	case m.isDone() || !m.hung:
		return 0, api.ErrOrder
	case m.state.Drive != press.Stopped:
		return 0, api.ErrGuard
	case m.good(m.at) != m.edition(m.at).Copies:
		return 0, api.ErrState
	}
	m.at, m.hung = m.at+1, false
	return m.at, api.OK
}

func (m *model) mail(faults []mail.Fault) (int, api.Errno) {
	if !m.isDone() || m.mailed {
		return 0, api.ErrOrder
	}
	var zones []int
	for copy, cause := range m.causes {
		if cause == 0 {
			_, zone := m.which(copy)
			zones = append(zones, zone)
		}
	}
	flow, e := mail.Run(m.Line, zones, faults)
	if e != api.OK {
		return 0, e
	}
	bundles, e := mail.Bundles(m.Line, flow, m.Drops, m.Pack)
	if e != api.OK {
		return 0, e
	}
	m.bundles, m.mailed = bundles, true
	return len(bundles), api.OK
}

// close posts what the chapter says, with its account numbers.
func (m *model) close(day int, counted []int) (int, api.Errno) {
	if !m.mailed || m.shut {
		return 0, api.ErrOrder
	}
	bundled, brought, used := 0, 0, 0
	for _, b := range m.bundles {
		bundled += len(b.Copies)
	}
	for _, web := range m.Paper.Webs {
		for _, r := range web.Reels {
			brought += r.Length
		}
	}
	uses, _ := reel.Used(m.Paper, len(m.causes))
	for _, u := range uses {
		used += u.Used
	}
	b, _ := books.New(m.Key, accounts())
	for _, x := range [][3]int{{0, 1, len(m.causes)}, {1, 2, len(m.causes) - bundled}, {1, 3, bundled}, {4, 5, brought}, {5, 6, used}} {
		if x[2] == 0 {
			continue
		}
		if e := b.Post(books.Entry{From: x[0], To: x[1], Amount: x[2], Day: day}); e != api.OK {
			return 0, e
		}
	}
	if _, e := b.Close(day, counted); e != api.OK {
		return 0, e
	}
	m.entries, _ = b.Entries()
	m.shut = true
	return len(m.entries), api.OK
}

// accounts are those that the chapter lists.
func accounts() []books.Account {
	return []books.Account{{Good: 1}, {Good: 1, Stock: true}, {Good: 1}, {Good: 1}, {Good: 2}, {Good: 2, Stock: true}, {Good: 2}}
}

// which returns the edition and the zone of a copy: the zones of an edition take its good copies one after the other.
func (m *model) which(copy int) (int, int) {
	place := m.place[copy]
	if m.causes[copy] != 0 {
		return m.order[place], -1
	}
	before := 0
	for i := range copy {
		if m.place[i] == place && m.causes[i] == 0 {
			before++
		}
	}
	for _, zone := range m.edition(place).Zones {
		if before < m.Title.Zones[zone].Copies {
			return m.order[place], zone
		}
		before -= m.Title.Zones[zone].Copies
	}
	return -1, -1
}

func (m *model) marks() []count.Mark {
	var l []count.Mark
	for copy, cause := range m.causes {
		if cause == 0 {
			continue
		}
		if last := len(l) - 1; last >= 0 && l[last].Cause == cause && l[last].To == copy-1 {
			l[last].To++
		} else {
			l = append(l, count.Mark{Cause: cause, From: copy, To: copy})
		}
	}
	return l
}

func (m *model) status() works.Status {
	s := works.Status{At: m.at, Edition: -1, Hung: m.hung, Mailed: m.mailed, Shut: m.shut, Printed: len(m.causes), Drive: m.state.Drive}
	if !m.isDone() {
		s.Edition, s.Good, s.Want = m.order[m.at], m.good(m.at), m.edition(m.at).Copies
	}
	return s
}

// expect checks that a night is the one of the model.
func (m *model) expect(t *testing.T, w *works.Works) {
	t.Helper()
	expectStatus(t, w, m.status())
	expectMarks(t, w, m.marks()...)
	var items []plate.Item
	if m.rack != nil {
		items, _ = m.rack.Items()
	}
	expectItems(t, w, items...)
	if s, e := w.State(); e != api.OK || !reflect.DeepEqual(s, m.state) {
		t.Fatal(s, e, m.state)
	}
	if b, e := w.Bundles(); e != api.OK || !slices.EqualFunc(b, m.bundles, func(x, y mail.Bundle) bool { return reflect.DeepEqual(x, y) }) {
		t.Fatal(b, e, m.bundles)
	}
	if l, e := w.Entries(); e != api.OK || !slices.Equal(l, m.entries) {
		t.Fatal(l, e, m.entries)
	}
	if order, plan, e := w.Plan(); e != api.OK || !slices.Equal(order, m.order) || !reflect.DeepEqual(plan, m.plan) {
		t.Fatal(order, plan, e)
	}
}

// expectCopies checks the edition and the zone of each copy.
func (m *model) expectCopies(t *testing.T, w *works.Works) {
	t.Helper()
	for copy := range m.causes {
		edition, zone := m.which(copy)
		expectWhich(t, w, copy, edition, zone, api.OK)
	}
	expectWhich(t, w, -1, 0, 0, api.ErrRange)
	expectWhich(t, w, len(m.causes), 0, 0, api.ErrRange)
}
