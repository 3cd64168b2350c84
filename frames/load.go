package frames

import "slices"

// mostFrames can be loaded: more never stand upon each other.
const mostFrames = 40

// copied are frames that share nothing with those of a list.
func copied(l []Frame) []Frame {
	c := slices.Clone(l)
	for i := range c {
		c[i].Got = slices.Clone(c[i].Got)
	}
	return c
}

// canStand tells whether frames can be under way, one upon the other.
func (m *Machine) canStand(l []Frame) bool {
	if len(l) == 0 || len(l) > mostFrames {
		return false
	}
	for i, f := range l {
		if !m.canBe(f) || i > 0 && !m.follows(l[i-1], f) {
			return false
		}
	}
	return true
}

// canBe tells whether a frame can be, wherever it stands. What came of its parts is not worked out again.
func (m *Machine) canBe(f Frame) bool {
	level, err := m.store.Level(f.ID)
	if err != nil || !goesOn(level, f.J) || f.Step != len(f.Got) || f.Step > partsOf(level) {
		return false
	}
	for _, id := range f.Got {
		got, err := m.store.Level(id)
		if err != nil || got != level-2 {
			return false
		}
	}
	return true
}

// follows tells whether a frame is the next part of the one beneath. That part's square need not be there, and is not made: its four are what is compared.
func (m *Machine) follows(beneath, f Frame) bool {
	p, there, err := m.next(beneath)
	if err != nil || !there || p.still || f.J != p.j {
		return false
	}
	kids, err := m.store.Kids(f.ID)
	return err == nil && kids == p.four
}
