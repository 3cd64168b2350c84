package frames

import "quilt/grow"

// step is one step of the machine, of which something is under way.
func (m *Machine) step() error {
	f := m.under[len(m.under)-1]
	p, there, err := m.next(f)
	if err != nil {
		return err
	}
	if !there {
		return m.end(f)
	}
	id, err := m.store.Node(p.four)
	if err != nil {
		return err
	}
	if p.still {
		out, err := m.middle(id)
		if err != nil {
			return err
		}
		m.take(out)
		return nil
	}
	if out, there := m.known[ask{id, p.j}]; there {
		m.take(out)
		return nil
	}
	m.under = append(m.under, Frame{ID: id, J: p.j})
	return nil
}

// middle is the middle of a square, as it is.
func (m *Machine) middle(id int) (int, error) {
	m.once.Do(func() {
		// No error can come of it: New has asked for the same.
		m.middles, _ = grow.New(m.store, m.rule)
	})
	return m.middles.Center(id)
}

// end ends the uppermost frame.
func (m *Machine) end(f Frame) error {
	out, err := m.whole(f)
	if err != nil {
		return err
	}
	m.known[ask{f.ID, f.J}] = out
	m.under = m.under[:len(m.under)-1]
	if len(m.under) == 0 {
		m.out = out
		return nil
	}
	m.take(out)
	return nil
}

// take lets what came of a part stand with the uppermost frame.
func (m *Machine) take(id int) {
	f := &m.under[len(m.under)-1]
	f.Step++
	f.Got = append(f.Got, id)
}
