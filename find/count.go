package find

import (
	"quilt/api"
	"quilt/quad"
)

// mostCells are counted at most: a wide square has more than a number can tell.
const mostCells = 1 << 62

// counter counts cells, and remembers how many it counted: along the edge of what is asked for lie very many squares, but most of them are the same ones, cut in the same way.
type counter struct {
	store *quad.Store
	known map[part]int
}

// part is what of a square lies between two corners.
type part struct {
	id        int
	low, high api.Cell
}

// count is how many cells of a part live.
func (c *counter) count(p part) (int, error) {
	q, err := look(c.store, p.id)
	if err != nil {
		return 0, err
	}
	// Cut to the square, the same parts of it have the same corners, and no sum of them wraps round.
	p.low = api.Cell{X: max(p.low.X, 0), Y: max(p.low.Y, 0)}
	p.high = api.Cell{X: min(p.high.X, q.last()), Y: min(p.high.Y, q.last())}
	if p.low.X > p.high.X || p.low.Y > p.high.Y {
		return 0, nil
	}
	if p.low == (api.Cell{}) && p.high == (api.Cell{X: q.last(), Y: q.last()}) {
		return q.count, nil
	}
	if n, there := c.known[p]; there {
		return n, nil
	}
	n, err := c.counted(q, p)
	if err != nil {
		return 0, err
	}
	c.known[p] = n
	return n, nil
}

// counted is what is not known yet, of a part of that square.
func (c *counter) counted(q square, p part) (int, error) {
	n := 0
	if q.level == lowest {
		eachOf(q.tile, func(at api.Cell) {
			if p.has(at) {
				n++
			}
		})
		return n, nil
	}
	for i, kid := range q.kids {
		at := q.corner(i)
		more, err := c.count(part{kid, minus(p.low, at), minus(p.high, at)})
		if err != nil {
			return 0, err
		}
		// The sum itself might wrap round.
		n += min(more, mostCells-n)
	}
	return n, nil
}

// has tells whether a cell of the square lies between the corners.
func (p part) has(c api.Cell) bool {
	return c.X >= p.low.X && c.X <= p.high.X && c.Y >= p.low.Y && c.Y <= p.high.Y
}
