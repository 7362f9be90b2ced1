package register

// control is a loop at work, with the corrections of the Dead copies before.
type control struct {
	Loop
	pending queue[int]
}

func newControl(l Loop) *control {
	c := &control{Loop: l}
	for range l.Dead {
		c.pending.put(0)
	}
	return c
}

// drift returns how far noise can drive the error of a loop until the next correction acts.
func (l Loop) drift() int { return (l.Dead + 1) * l.Noise }

// decide returns the correction of a copy for its measured error.
func (c *control) decide(measured int) int {
	expected := measured
	for _, move := range c.pending.values {
		expected += move
	}
	return min(max(-expected, -c.Step), c.Step)
}

// delay takes the correction of a copy, and returns the one that acts now.
func (c *control) delay(move int) int {
	c.pending.put(move)
	return c.pending.take()
}
