package quad

import (
	"quilt/api"
	"quilt/tile"
)

// Empty is the square of a level in which none lives.
func (s *Store) Empty(level int) (int, error) {
	if level < lowest || level > api.MaxLevel {
		return 0, api.ErrArg
	}
	id, err := s.Leaf(0)
	if err != nil {
		return 0, err
	}
	for range level - lowest {
		if id, err = s.Node([4]int{id, id, id, id}); err != nil {
			return 0, err
		}
	}
	return id, nil
}

// Get tells whether a cell of a square lives.
func (s *Store) Get(id, x, y int) (bool, error) {
	q, err := s.about(id, x, y)
	if err != nil {
		return false, err
	}
	if q.level == lowest {
		return tile.Get(q.tile, x, y)
	}
	i, x, y := q.lead(x, y)
	return s.Get(q.kids[i], x, y)
}

// Set is a square in which one more cell lives, or one less.
func (s *Store) Set(id, x, y int, lives bool) (int, error) {
	q, err := s.about(id, x, y)
	if err != nil {
		return 0, err
	}
	if q.level == lowest {
		t, err := tile.Set(q.tile, x, y, lives)
		if err != nil {
			return 0, err
		}
		return s.Leaf(t)
	}
	i, x, y := q.lead(x, y)
	kid, err := s.Set(q.kids[i], x, y, lives)
	if err != nil {
		return 0, err
	}
	q.kids[i] = kid // of this value alone: the square itself stays as it is
	return s.Node(q.kids)
}

// about is the square of a number, if it has such a cell.
func (s *Store) about(id, x, y int) (square, error) {
	q, err := s.square(id)
	if err != nil {
		return square{}, err
	}
	if width := 1 << q.level; x < 0 || x >= width || y < 0 || y >= width {
		return square{}, api.ErrRange
	}
	return q, nil
}

// lead tells in which of its four a cell of a square is, and where in that one.
func (q square) lead(x, y int) (int, int, int) {
	half := 1 << (q.level - 1)
	return y/half*2 + x/half, x % half, y % half
}
