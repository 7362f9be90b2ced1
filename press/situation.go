package press

const (
	drives      = 3
	unitTruths  = 4
	driveTruths = 2
)

// situation has the truths of a state: whether the press is Crawling, or Running; whether its folder is open; and four of each tower.
type situation [driveTruths + 1 + unitTruths*MaxTowers]bool

// situation returns the situation of a state.
func (s State) situation() situation {
	at := situation{s.Drive == Crawling, s.Drive == Running, s.Folder}
	for i, u := range s.Units {
		copy(at[driveTruths+1+unitTruths*i:], []bool{u.Open, u.Threaded, u.Clean, u.Pressed})
	}
	return at
}

// code returns the code of a situation: behind the drive the truths are the digits of a binary number, the lowest one first.
func (at situation) code() int {
	drive, digits := Stopped, 0
	switch {
	case at[0]:
		drive = Crawling
	case at[1]:
		drive = Running
	}
	for i, is := range at[driveTruths:] {
		if is {
			digits += 1 << i
		}
	}
	return drive + drives*digits
}

// decode returns a state with a code, and whether there is one of so many towers.
func decode(code, towers int) (State, bool) {
	if !within(code, 0, drives<<(1+unitTruths*towers)-1) {
		return State{}, false
	}
	is := func(digit int) bool { return code/drives>>digit&1 == 1 }
	s := State{Drive: code % drives, Folder: is(0)}
	for i := range towers {
		first := 1 + unitTruths*i
		s.Units = append(s.Units, Unit{Open: is(first), Threaded: is(first + 1), Clean: is(first + 2), Pressed: is(first + 3)})
	}
	return s, true
}
