package works_test

import (
	"math/rand"

	"foldhouse/api"
	"foldhouse/edition"
	"foldhouse/impose"
	"foldhouse/mail"
	"foldhouse/press"
	"foldhouse/reel"
	"foldhouse/works"
)

// anySetup returns a setup that is right.
func anySetup(rnd *rand.Rand) works.Setup {
	for {
		s := works.Setup{Key: rnd.Uint64(), Job: anyJob(rnd)}
		s.Title = anyTitle(rnd, s.Job)
		s.Press = press.Press{Warm: rnd.Intn(4), Tail: rnd.Intn(5), Dirt: 2 + rnd.Intn(20)}
		for range s.Job.Towers {
			s.Press.Jammed = append(s.Press.Jammed, rnd.Intn(12) == 0)
		}
		_, cost, _ := impose.Least(s.Job)
		s.Paper = anyPaper(rnd, cost.Webs)
		s.Line, s.Drops, s.Pack = anyMailroom(rnd, s.Title.Zones)
		if works.Check(s) == api.OK {
			return s
		}
	}
}

func anyJob(rnd *rand.Rand) impose.Job {
	j := impose.Job{Rows: 1 + rnd.Intn(2)}
	for range 1 + rnd.Intn(3) {
		t := tower(1 + rnd.Intn(4))
		t.Quick = rnd.Intn(2) == 0
		for _, side := range t.Colour {
			for col := range side {
				side[col] = rnd.Intn(2) == 0
			}
		}
		j.Towers = append(j.Towers, t)
	}
	for range 1 + rnd.Intn(2) {
		var section []impose.Leaf
		for range 2 + 2*rnd.Intn(4) {
			section = append(section, impose.Leaf{Colour: rnd.Intn(8) == 0, Late: rnd.Intn(12) == 0})
		}
		j.Sections = append(j.Sections, section)
	}
	if rnd.Intn(4) == 0 {
		j.Panoramas = []impose.Spread{{Index: len(j.Sections[0]) / 2}}
	}
	return j
}

// anyTitle returns a title with the pages of a job.
func anyTitle(rnd *rand.Rand, j impose.Job) edition.Title {
	t := edition.Title{Rate: 60, Stop: rnd.Intn(3), Hang: rnd.Intn(3)}
	for _, section := range j.Sections {
		for _, leaf := range section {
			colours := 1
			if leaf.Colour {
				colours = 2 + rnd.Intn(3)
			}
			t.Colours = append(t.Colours, colours)
		}
	}
	for range 1 + rnd.Intn(4) {
		z := zone(rnd.Intn(6), make([]int, len(t.Colours))...)
		for range rnd.Intn(3) {
			z.Variants[rnd.Intn(len(z.Variants))] = rnd.Intn(4)
		}
		if rnd.Intn(4) == 0 {
			z.Due = rnd.Intn(30)
		}
		t.Zones = append(t.Zones, z)
	}
	if rnd.Intn(3) == 0 {
		t.Ready = []edition.Ready{{Page: rnd.Intn(len(t.Colours)), Variant: rnd.Intn(2), At: rnd.Intn(20)}}
	}
	return t
}

func anyPaper(rnd *rand.Rand, webs int) reel.Press {
	p := reel.Press{Cut: 500 + rnd.Intn(500), Margin: rnd.Intn(2)}
	id := 0
	for range webs {
		w := reel.Web{Offset: rnd.Intn(2) * rnd.Intn(2000), Before: rnd.Intn(800), After: rnd.Intn(800)}
		for range 3 + rnd.Intn(4) {
			id++
			r := cutReel(id, rnd.Intn(16000))
			r.Core = rnd.Intn(1 + r.Length/10)
			w.Reels = append(w.Reels, r)
		}
		p.Webs = append(p.Webs, w)
	}
	return p
}

// anyMailroom returns a line, drops and a pack; the drops get most copies of the zones.
func anyMailroom(rnd *rand.Rand, zones []edition.Zone) (mail.Line, []mail.Drop, mail.Pack) {
	l := mail.Line{Batch: 1 + rnd.Intn(4)}
	for part := range 1 + rnd.Intn(3) {
		l.Hoppers = append(l.Hoppers, mail.Hopper{Part: part, Watch: rnd.Intn(3)})
	}
	var drops []mail.Drop
	for i, z := range zones {
		var parts []int
		for part := range l.Hoppers {
			if rnd.Intn(2) == 0 {
				parts = append(parts, part)
			}
		}
		l.Zones = append(l.Zones, parts)
		drops = append(drops, mail.Drop{Id: i, Zone: i, Copies: max(0, z.Copies-rnd.Intn(2))})
	}
	if rnd.Intn(2) == 0 {
		l.Repair = []int{0}
	}
	size := 1 + rnd.Intn(4)
	return l, drops, mail.Pack{Size: size, Least: 1 + rnd.Intn((size+1)/2)}
}

// anyOrder returns an order that is mostly of use to a night.
func anyOrder(rnd *rand.Rand, m *model) works.Order {
	o := works.Order{Kind: works.Kind(rnd.Intn(11)), N: rnd.Intn(6) - 1, Faults: anyFaults(rnd)}
	if rnd.Intn(2) == 0 {
		o.Counted = []int{rnd.Intn(2), rnd.Intn(3000)}
	}
	if rnd.Intn(4) > 0 {
		o.Kind = m.useful(rnd)
	}
	if o.Kind == works.Print && rnd.Intn(3) == 0 {
		o.N = rnd.Intn(30)
	}
	return o
}

func anyFaults(rnd *rand.Rand) []mail.Fault {
	var l []mail.Fault
	for range rnd.Intn(3) {
		l = append(l, mail.Fault{Copy: rnd.Intn(12), Hopper: rnd.Intn(2), Double: rnd.Intn(2) == 0})
	}
	return l
}

// useful returns a kind of order that leads on, or tears a web now and then.
func (m *model) useful(rnd *rand.Rand) works.Kind {
	enough := !m.isDone() && m.good(m.at) == m.edition(m.at).Copies
	switch {
	case m.isDone() && !m.mailed:
		return works.Mail
	case m.isDone():
		return works.Shut
	case !m.hung:
		return works.Hang
	case enough && m.state.Drive == press.Stopped:
		return works.Next
	case enough:
		return works.Stop
	case m.state.Drive == press.Stopped:
		return []works.Kind{works.Start, works.Start, works.Wash}[rnd.Intn(3)]
	}
	return []works.Kind{works.Print, works.Print, works.Print, works.Stop, works.Break}[rnd.Intn(5)]
}
