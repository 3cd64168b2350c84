package grow

import (
	"quilt/quad"
	"quilt/rule"
	"quilt/tile"
)

const lowest = 3 // the level of a tile

// maker makes squares in the store that it embeds.
type maker struct {
	*quad.Store
	rule  rule.Rule
	known map[ask]int // what came of what was asked: squares stay, so it holds for good
}

// ask is a square, and how far it goes on.
type ask struct{ id, j int }

// farthest is how far a square of a level goes on at most: a cell hangs on what is one cell further away with each generation, and a quarter of the width lies about the middle.
func farthest(level int) int { return level - 2 }

// opposite is which of four lies across from one of them.
func opposite(i int) int { return 3 - i }

// fourAt are the four of a row-wise list, so many in each row, of which the i-th such four is made, counted by rows too.
func fourAt(l []int, wide, i int) [4]int {
	at := i/(wide-1)*wide + i%(wide-1)
	return [4]int{l[at], l[at+1], l[at+wide], l[at+wide+1]}
}

// tiles are those of four leaves.
func (m *maker) tiles(four [4]int) ([4]tile.Tile, error) {
	var tiles [4]tile.Tile
	for i, id := range four {
		t, err := m.Tile(id)
		if err != nil {
			return [4]tile.Tile{}, err
		}
		tiles[i] = t
	}
	return tiles, nil
}

// middle is the middle of four squares side by side. They need not be one of the store's, which saves it some.
func (m *maker) middle(four [4]int) (int, error) {
	level, err := m.Level(four[0])
	if err != nil {
		return 0, err
	}
	if level == lowest {
		tiles, err := m.tiles(four)
		if err != nil {
			return 0, err
		}
		return m.Leaf(tile.Middle(tiles))
	}
	var inner [4]int
	for i, id := range four {
		kids, err := m.Kids(id)
		if err != nil {
			return 0, err
		}
		inner[i] = kids[opposite(i)]
	}
	return m.Node(inner)
}

// wide is a square of a level with others about it, in which none lives.
func (m *maker) wide(id, level int) (int, error) {
	four, err := m.corners(id, level)
	if err != nil {
		return 0, err
	}
	return m.Node(four)
}

// corners are four squares of a level, with a quarter of a square of it each, which lies where they meet.
func (m *maker) corners(id, level int) ([4]int, error) {
	if level == lowest {
		return m.tileCorners(id)
	}
	kids, err := m.Kids(id)
	if err != nil {
		return [4]int{}, err
	}
	empty, err := m.Empty(level - 1)
	if err != nil {
		return [4]int{}, err
	}
	var four [4]int
	for i, kid := range kids {
		about := [4]int{empty, empty, empty, empty}
		about[opposite(i)] = kid
		if four[i], err = m.Node(about); err != nil {
			return [4]int{}, err
		}
	}
	return four, nil
}

// tileCorners are such of a leaf, whose quarters are no squares.
func (m *maker) tileCorners(id int) ([4]int, error) {
	t, err := m.Tile(id)
	if err != nil {
		return [4]int{}, err
	}
	var four [4]int
	for i := range four {
		var about [4]tile.Tile
		about[opposite(i)] = t
		if four[i], err = m.Leaf(tile.Middle(about)); err != nil {
			return [4]int{}, err
		}
	}
	return four, nil
}
