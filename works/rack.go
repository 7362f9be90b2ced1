package works

import (
	"iter"
	"slices"

	"foldhouse/api"
	"foldhouse/fold"
	"foldhouse/impose"
	"foldhouse/plate"
	"foldhouse/press"
)

// rack has the plates of a run.
type rack struct {
	*plate.Rack
	run fold.Run
}

// hang hangs the plates of the edition.
func (n *night) hang(Order) (int, api.Errno) {
	if n.isDone() || n.hung {
		return 0, api.ErrOrder
	}
	if n.state.Drive != press.Stopped {
		return 0, api.ErrGuard
	}
	r := n.rack()
	r.run = n.run(n.place)
	r.Change(r.run)
	for i := range r.wrong() {
		r.Act(plate.Order{Kind: plate.Take, Plate: i})
		r.Act(plate.Order{Kind: plate.Scrap, Plate: i})
	}
	burnt := 0
	for spot, page := range r.missing() {
		r.put(spot, page)
		burnt++
	}
	n.items, _ = r.Items()
	n.hung = true
	return burnt, api.OK
}

// rack returns the rack as the edition before has left it.
func (n *night) rack() rack {
	run := n.run(max(0, n.place-1))
	k, _ := plate.New(run)
	r := rack{k, run}
	for _, item := range n.items {
		if item.State == plate.Hung {
			r.put(item.Spot, item.Page)
		} else {
			i, _ := r.Act(plate.Order{Kind: plate.Burn, Page: item.Page})
			r.Act(plate.Order{Kind: plate.Scrap, Plate: i})
		}
	}
	return r
}

// run returns the run of the edition at a place of the order.
func (n *night) run(place int) fold.Run {
	variants := n.editions()[place].Variants
	var product [][]int
	page := 0
	for _, section := range n.Job.Sections {
		var plates []int
		for range section {
			plates = append(plates, plateOf(page, variants))
			page++
		}
		product = append(product, plates)
	}
	run, _ := impose.Build(n.Job, n.plan)
	run, _ = fold.Fill(run, product)
	return run
}

// put burns and bends a plate of a page, and hangs it on a spot.
func (r rack) put(spot fold.Spot, page int) {
	i, _ := r.Act(plate.Order{Kind: plate.Burn, Page: page})
	r.Act(plate.Order{Kind: plate.Bend, Plate: i})
	r.Act(plate.Order{Kind: plate.Hang, Plate: i, Spot: spot})
}

// wrong yields the plates that are wrong, spot by spot.
func (r rack) wrong() iter.Seq[int] {
	return func(yield func(i int) bool) {
		spots, _ := r.Wrong()
		items, _ := r.Items()
		for _, spot := range spots {
			hangs := func(item plate.Item) bool { return item.State == plate.Hung && item.Spot == spot }
			if !yield(slices.IndexFunc(items, hangs)) {
				return
			}
		}
	}
}

// missing yields the spots that are missing a plate, in order, each with its page.
func (r rack) missing() iter.Seq2[fold.Spot, int] {
	return func(yield func(spot fold.Spot, page int) bool) {
		spots, _ := r.Missing()
		for _, spot := range spots {
			web := r.run.Webs[spot.Web]
			if !yield(spot, web.Plates[(spot.Side*web.Rows+spot.Row)*web.Cols+spot.Col].Page) {
				return
			}
		}
	}
}
