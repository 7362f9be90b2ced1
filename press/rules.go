package press

// rule says of an action how many units it can have, for which of them it is allowed, and what it does then.
type rule struct {
	units  func(w working) int
	allows func(w working, unit int) bool
	acts   func(w *working, unit int)
}

// rules returns the rules of all actions by Kind.
func rules() map[int]rule {
	towers := func(w working) int { return len(w.Units) }
	whole := func(working) int { return 1 } // Actions that concern no tower have the Unit 0.
	return map[int]rule{
		Open: {towers,
			func(w working, unit int) bool { return w.Drive == Stopped && !w.Units[unit].Open },
			func(w *working, unit int) { w.Units[unit].Open = true }},
		Close: {towers,
			func(w working, unit int) bool { return w.Units[unit].Open },
			func(w *working, unit int) { w.Units[unit].Open = false }},
		Thread: {towers,
			func(w working, unit int) bool { return w.Drive == Crawling && !w.Units[unit].Threaded },
			func(w *working, unit int) { w.Units[unit].Threaded = true }},
		Wash: {towers,
			func(w working, unit int) bool {
				return w.Drive == Crawling && !w.Units[unit].Threaded && !w.Jammed[unit]
			},
			func(w *working, unit int) { w.Units[unit].Clean, w.Units[unit].Inked = true, 0 }},
		On: {towers,
			func(w working, unit int) bool {
				u := w.Units[unit]
				return w.Drive != Stopped && u.Threaded && u.Clean && !u.Pressed
			},
			func(w *working, unit int) { w.Units[unit].Pressed = true }},
		Off: {towers,
			func(w working, unit int) bool {
				return w.Units[unit].Pressed && (w.Drive != Running || w.pressed() > 1)
			},
			func(w *working, unit int) { w.Units[unit].Pressed = false }},
		Crawl: {whole,
			func(w working, _ int) bool { return w.Drive != Crawling && !w.isOpen() },
			func(w *working, _ int) { w.Drive, w.Fresh = Crawling, 0 }},
		Run: {whole,
			func(w working, _ int) bool { return w.Drive == Crawling && w.pressed() > 0 },
			func(w *working, _ int) { w.Drive, w.Fresh = Running, 0 }},
		Stop: {whole,
			func(w working, _ int) bool { return w.Drive != Stopped && w.pressed() == 0 },
			func(w *working, _ int) { w.Drive = Stopped }},
		Unlock: {whole,
			func(w working, _ int) bool { return w.Drive == Stopped && !w.Folder },
			func(w *working, _ int) { w.Folder = true }},
		Lock: {whole,
			func(w working, _ int) bool { return w.Folder },
			func(w *working, _ int) { w.Folder = false }},
		Cut: {towers,
			func(w working, unit int) bool {
				return w.Drive == Stopped && w.Units[unit].Open && w.Units[unit].Threaded
			},
			func(w *working, unit int) { w.Units[unit].Threaded = false }},
	}
}
