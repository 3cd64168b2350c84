package frames

import "quilt/tile"

const (
	lowest = 4 // the level of a square of four tiles: it has no parts

	// A square of a level above has first so many parts, and so many in all.
	firstParts = 9
	allParts   = 13
)

// part is what a frame asks for ahead of its end: what comes of the square of four side by side.
type part struct {
	four  [4]int
	j     int
	still bool // it does not go on: its middle is asked for, as it is
}

// goesOn tells whether a square of a level can go on so far: a cell hangs on what is one cell further away with each generation, and a quarter of the width lies about the middle.
func goesOn(level, j int) bool { return level >= lowest && j >= 0 && j <= farthest(level) }

// farthest is how far a square of a level goes on at most.
func farthest(level int) int { return level - 2 }

// partsOf is how many parts a square of a level has.
func partsOf(level int) int {
	if level == lowest {
		return 0
	}
	return allParts
}

// next is the part that a frame asks for next, and whether there is one.
func (m *Machine) next(f Frame) (part, bool, error) {
	level, err := m.store.Level(f.ID)
	if err != nil || f.Step == partsOf(level) {
		return part{}, false, err
	}
	p := part{j: f.J}
	far := f.J == farthest(level)
	if far {
		// As far as it can go it goes in two halves: one with the nine, one with the four.
		p.j = f.J - 1
	}
	if f.Step >= firstParts {
		p.four = fourAt(f.Got, 3, f.Step-firstParts)
		return p, true, nil
	}
	sixteen, err := m.sixteen(f.ID)
	if err != nil {
		return part{}, false, err
	}
	p.four, p.still = fourAt(sixteen[:], 4, f.Step), !far
	return p, true, nil
}

// whole is what comes of a frame whose parts are all done.
func (m *Machine) whole(f Frame) (int, error) {
	if f.Step == 0 { // of a square without parts
		return m.growTiles(f.ID, f.J)
	}
	return m.store.Node(fourAt(f.Got[firstParts:], 2, 0))
}

// growTiles is the middle of a square of four tiles, so far on.
func (m *Machine) growTiles(id, j int) (int, error) {
	kids, err := m.store.Kids(id)
	if err != nil {
		return 0, err
	}
	var tiles [4]tile.Tile
	for i, kid := range kids {
		if tiles[i], err = m.store.Tile(kid); err != nil {
			return 0, err
		}
	}
	t, err := tile.Grow(m.rule, tiles, 1<<j)
	if err != nil {
		return 0, err
	}
	return m.store.Leaf(t)
}

// sixteen are the four of each of a square's four, by rows through all of them.
func (m *Machine) sixteen(id int) ([16]int, error) {
	var all [16]int
	kids, err := m.store.Kids(id)
	if err != nil {
		return all, err
	}
	for i, kid := range kids {
		four, err := m.store.Kids(kid)
		if err != nil {
			return [16]int{}, err
		}
		for j, id := range four {
			all[4*(i/2*2+j/2)+i%2*2+j%2] = id
		}
	}
	return all, nil
}

// fourAt are the four of a row-wise list, so many in each row, of which the i-th such square is made, counted by rows too.
func fourAt(l []int, wide, i int) [4]int {
	at := i/(wide-1)*wide + i%(wide-1)
	return [4]int{l[at], l[at+1], l[at+wide], l[at+wide+1]}
}
