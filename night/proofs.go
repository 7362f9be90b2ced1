package night

import "iter"

// least returns the least right plan, if there is one.
func (s *search) least() ([]Place, bool) {
	var best []Place
	found := false
	var try func(d decisions)
	try = func(d decisions) {
		node, plan := s.next(d)
		// What is decided from here on makes no job earlier.
		if found && s.compare(plan, best) >= 0 {
			return
		}
		if node.Kind == planned {
			best, found = plan, true
		}
		for _, more := range s.leads(node, d) {
			try(more)
		}
	}
	try(undecided())
	return best, found
}

// proof returns a proof that there is no right plan, if there is one.
//
// No order that it decides follows from the ones before it, so the proof has no more ends than there are rows of jobs on their machines: at most 20160, if 6 jobs are on 3 machines. There are fewer nodes with branches than ends; and the rows are at most 6720 if one of the jobs has one machine, so that 6 such nodes on the way to each end leave the proof below MaxNodes.
func (s *search) proof() ([]Node, bool) {
	nodes := make([]Node, 1)
	var prove func(number int, d decisions) bool
	prove = func(number int, d decisions) bool {
		node, _ := s.next(d)
		switch node.Kind {
		case planned:
			return false
		case Choose:
			node.First = len(nodes)
			nodes = append(nodes, make([]Node, len(s.Jobs[node.A].Machines))...)
		case Order:
			node.First, node.Second = len(nodes), len(nodes)+1
			nodes = append(nodes, make([]Node, 2)...)
		}
		nodes[number] = node
		for child, more := range s.leads(node, d) {
			if !prove(child, more) {
				return false
			}
		}
		return true
	}
	if !prove(0, undecided()) {
		return nil, false
	}
	return nodes, true
}

// next returns the node that is next for decisions, without the nodes to which it leads, and the places of the least beginnings. Its Kind is planned if these are a right plan.
func (s *search) next(d decisions) (Node, []Place) {
	plan := make([]Place, len(s.Jobs))
	for i, begin := range s.windows(d) {
		plan[i] = Place{d.on[i], begin}
		if s.isBeyond(i, begin) {
			return Node{Kind: Beyond, A: i}, plan
		}
	}
	for i, p := range plan {
		if p.Machine == open {
			return Node{Kind: Choose, A: i}, plan
		}
		for a := range i {
			if s.collide(plan, a, i) {
				return Node{Kind: Order, A: a, B: i}, plan
			}
		}
	}
	return Node{Kind: planned}, plan
}

func (s *search) isBeyond(job, begin int) bool { return begin == never || begin > s.Jobs[job].latest() }

// leads yields the nodes to which a node leads, with all that is decided in them.
func (s *search) leads(node Node, d decisions) iter.Seq2[int, decisions] {
	return func(yield func(child int, more decisions) bool) {
		switch node.Kind {
		case Choose:
			for i, m := range s.Jobs[node.A].Machines {
				if !yield(node.First+i, d.choose(node.A, m)) {
					return
				}
			}
		case Order:
			if yield(node.First, d.order(node.A, node.B)) {
				yield(node.Second, d.order(node.B, node.A))
			}
		}
	}
}

// proves reports whether a list of nodes is a proof.
func (s *search) proves(proof []Node) bool {
	reached := map[int]decisions{0: undecided()}
	right := 0
nodes:
	for i, node := range proof {
		d, is := reached[i]
		if !is || !s.holds(node, d) {
			break
		}
		for child, more := range s.leads(node, d) {
			_, twice := reached[child]
			if twice || !within(child, i+1, len(proof)-1) {
				break nodes
			}
			reached[child] = more
		}
		right++
	}
	return right > 0 && right == len(proof)
}

// holds reports whether a node says what is right of decisions.
func (s *search) holds(node Node, d decisions) bool {
	if !s.isJob(node.A) {
		return false
	}
	switch node.Kind {
	case Choose:
		return d.on[node.A] == open
	case Order:
		return s.isJob(node.B) && node.A != node.B && d.on[node.A] != open && d.on[node.A] == d.on[node.B]
	case Beyond:
		return s.isBeyond(node.A, s.windows(d)[node.A])
	}
	return false
}
