package chain

import "slices"

// shift returns the first of the offsets of a step with which the greatest age is least, and this age.
func (c timed) shift(step int) (offset, age int) {
	c.steps = slices.Clone(c.steps)
	for o := range c.steps[step].Every {
		c.steps[step].Offset = o
		if most := c.oldestBy(step); o == 0 || most < age {
			offset, age = o, most
		}
	}
	return offset, age
}

// oldestBy returns the greatest age, found by the runs of one of the steps. The values of each are oldest
// in the last run of the last step that does not depend on a later one.
// (So all offsets of a step together take no longer than a round: the more offsets there are, the fewer runs it has.)
func (c timed) oldestBy(step int) int {
	most := 0
	s := c.steps[step]
	for read := s.Offset; read < c.round; read += s.Every {
		last := c.write(step, read+s.Every) - c.last().Every
		most = max(most, last-c.origin(step, read))
	}
	return most
}

// origin returns when the run of the first step reads on which a run of a step depends that reads at a time.
func (c timed) origin(step, read int) int {
	for i := step - 1; i >= 0; i-- {
		read = source(c.steps[i], read)
	}
	return read
}

// write returns when the first run of the last step writes that depends on a run of a step that reads at a time or later.
func (c timed) write(step, read int) int {
	for i, s := range c.steps[step+1:] {
		read = soonest(s, read+c.steps[step+i].Response)
	}
	return read + c.last().Response
}
