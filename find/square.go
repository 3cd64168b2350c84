package find

import (
	"math/bits"

	"quilt/api"
	"quilt/quad"
	"quilt/tile"
)

const (
	lowest = 3 // the level of a tile
	wide   = 1 << lowest
)

// square is what a store tells of one.
type square struct {
	level, count int
	tile         tile.Tile // of the lowest level
	kids         [4]int    // of a level above
}

// look asks a store for a square.
func look(s *quad.Store, id int) (square, error) {
	level, err := s.Level(id)
	if err != nil {
		return square{}, err
	}
	count, err := s.Count(id)
	if err != nil {
		return square{}, err
	}
	q := square{level: level, count: count}
	if level == lowest {
		q.tile, err = s.Tile(id)
	} else {
		q.kids, err = s.Kids(id)
	}
	if err != nil {
		return square{}, err
	}
	return q, nil
}

// last is the greatest X of a square's cells, and the greatest Y.
func (q square) last() int { return 1<<q.level - 1 }

// half is half the width of a square.
func (q square) half() int { return 1 << (q.level - 1) }

// corner is where the i-th of a square's four begins.
func (q square) corner(i int) api.Cell {
	return api.Cell{X: i % 2 * q.half(), Y: i / 2 * q.half()}
}

// each lets take have each cell of a square that lives, as one of a wider square in which that one begins at a place. What has no cells is passed by, so it does not matter how wide it is.
func each(s *quad.Store, id int, at api.Cell, take func(api.Cell)) error {
	q, err := look(s, id)
	if err != nil || q.count == 0 {
		return err
	}
	if q.level == lowest {
		eachOf(q.tile, func(c api.Cell) { take(plus(at, c)) })
		return nil
	}
	for i, kid := range q.kids {
		if err := each(s, kid, plus(at, q.corner(i)), take); err != nil {
			return err
		}
	}
	return nil
}

// eachOf lets take have each cell of a tile that lives.
func eachOf(t tile.Tile, take func(api.Cell)) {
	for rest := uint64(t); rest != 0; rest &= rest - 1 {
		i := bits.TrailingZeros64(rest)
		take(api.Cell{X: i % wide, Y: i / wide})
	}
}

func plus(a, b api.Cell) api.Cell { return api.Cell{X: a.X + b.X, Y: a.Y + b.Y} }

func minus(a, b api.Cell) api.Cell { return api.Cell{X: a.X - b.X, Y: a.Y - b.Y} }
