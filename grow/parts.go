package grow

import "quilt/tile"

// grow is the middle of a square above the lowest level, two to the power of j generations on, be it known or not.
func (m *maker) grow(id, j int) (int, error) {
	asked := ask{id, j}
	if out, there := m.known[asked]; there {
		return out, nil
	}
	out, err := m.grown(id, j)
	if err != nil {
		return 0, err
	}
	m.known[asked] = out
	return out, nil
}

// grown is what is not known yet: nine squares of half the width lie in a square, four lie in the middles of these, and the middles of the four are what is asked for.
func (m *maker) grown(id, j int) (int, error) {
	level, err := m.Level(id)
	if err != nil {
		return 0, err
	}
	kids, err := m.Kids(id)
	if err != nil {
		return 0, err
	}
	if level == lowest+1 {
		return m.growTiles(kids, j)
	}
	part, rest := m.middle, j
	if j == farthest(level) {
		// Further than half the width goes on at once: half of it with the nine, half of it with the four.
		rest = j - 1
		part = func(four [4]int) (int, error) { return m.growFour(four, rest) }
	}
	nine, err := m.nine(kids, part)
	if err != nil {
		return 0, err
	}
	var four [4]int
	for i := range four {
		if four[i], err = m.growFour(fourAt(nine[:], 3, i), rest); err != nil {
			return 0, err
		}
	}
	return m.Node(four)
}

// growTiles is the middle of four leaves, so far on.
func (m *maker) growTiles(four [4]int, j int) (int, error) {
	tiles, err := m.tiles(four)
	if err != nil {
		return 0, err
	}
	t, err := tile.Grow(m.rule, tiles, 1<<j)
	if err != nil {
		return 0, err
	}
	return m.Leaf(t)
}

// growFour is the middle of four squares side by side, so far on. They are made one, by which it is known.
func (m *maker) growFour(four [4]int, j int) (int, error) {
	id, err := m.Node(four)
	if err != nil {
		return 0, err
	}
	return m.grow(id, j)
}

// nine are what comes of the nine squares of half the width that lie in four side by side, by rows.
func (m *maker) nine(four [4]int, part func(four [4]int) (int, error)) ([9]int, error) {
	sixteen, err := m.sixteen(four)
	if err != nil {
		return [9]int{}, err
	}
	var nine [9]int
	for i := range nine {
		if nine[i], err = part(fourAt(sixteen[:], 4, i)); err != nil {
			return [9]int{}, err
		}
	}
	return nine, nil
}

// sixteen are the four of each of four squares side by side, by rows through all of them.
func (m *maker) sixteen(four [4]int) ([16]int, error) {
	var all [16]int
	for i, id := range four {
		kids, err := m.Kids(id)
		if err != nil {
			return [16]int{}, err
		}
		for j, kid := range kids {
			all[4*(i/2*2+j/2)+i%2*2+j%2] = kid
		}
	}
	return all, nil
}
