package find

import (
	"slices"

	"quilt/api"
	"quilt/quad"
)

// The sides of a square. The one across is two further on, or back.
const (
	left = iota
	above
	right
	below
)

// near tells which two of a square's four lie at each side.
var near = [4][2]int{{0, 2}, {0, 1}, {1, 3}, {2, 3}}

// freeAt is how many rows, or columns, at a side of a square have no cell that lives, where some other has one.
func freeAt(s *quad.Store, id, side int) (int, error) {
	level, err := s.Level(id)
	if err != nil {
		return 0, err
	}
	free := 0
	// Side by side along that side lie very many, but most of them are the same ones: it is enough to go on with each once.
	front := []int{id}
	for ; level > lowest; level-- {
		next, err := living(s, front, near[side])
		if err == nil && len(next) == 0 {
			free += 1 << (level - 1)
			next, err = living(s, front, near[(side+2)%4])
		}
		if err != nil {
			return 0, err
		}
		front = next
	}
	more, err := freeInTiles(s, front, side)
	if err != nil {
		return 0, err
	}
	return free + more, nil
}

// living are those of two of the four of each square in which some cell lives, each once.
func living(s *quad.Store, ids []int, two [2]int) ([]int, error) {
	var l []int
	for _, id := range ids {
		q, err := look(s, id)
		if err != nil {
			return nil, err
		}
		for _, i := range two {
			count, err := s.Count(q.kids[i])
			if err != nil {
				return nil, err
			}
			if count > 0 {
				l = append(l, q.kids[i])
			}
		}
	}
	slices.Sort(l)
	return slices.Compact(l), nil
}

// freeInTiles is how many rows, or columns, at a side are free in all of some tiles.
func freeInTiles(s *quad.Store, ids []int, side int) (int, error) {
	free := wide
	for _, id := range ids {
		t, err := s.Tile(id)
		if err != nil {
			return 0, err
		}
		eachOf(t, func(c api.Cell) {
			far := [4]int{left: c.X, above: c.Y, right: wide - 1 - c.X, below: wide - 1 - c.Y}
			free = min(free, far[side])
		})
	}
	return free, nil
}
