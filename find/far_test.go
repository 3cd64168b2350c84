package find

import (
	"math"
	"math/bits"
	"testing"

	"quilt/api"
	"quilt/chance"
)

// comb makes squares in which the cells live whose X and Y are both so much above a multiple of step: many different ones, each of which comes many times.
type comb struct {
	s     store
	step  int
	known map[[3]int]int
}

// square is that of a level whose first cell stands at such a place.
func (m comb) square(level, x, y int) int {
	m.s.t.Helper()
	x, y = x%m.step, y%m.step
	if id := m.known[[3]int{level, x, y}]; id > 0 {
		return id
	}
	var id int
	if level == 3 {
		p := sheet{8, make([]bool, 64)}
		for i := range p.lives {
			p.lives[i] = (x+i%8)%m.step == 0 && (y+i/8)%m.step == 0
		}
		id = m.s.lay(p)
	} else {
		half := 1 << (level - 1)
		id = m.s.four(m.square(level-1, x, y), m.square(level-1, x+half, y), m.square(level-1, x, y+half), m.square(level-1, x+half, y+half))
	}
	m.known[[3]int{level, x, y}] = id
	return id
}

// teeth are how many numbers from low to high are a place of a comb.
func (m comb) teeth(level, low, high, at int) int {
	low, high = max(low, 0), min(high, 1<<level-1)
	if low > high {
		return 0
	}
	upTo := func(n int) int { return (n + at + m.step) / m.step }
	return upTo(high) - upTo(low-1)
}

// FD2, FD3: combs of level 40, of up to 56,333 different squares: between any corners, and how far they go.
func TestComb(t *testing.T) {
	c := chance.Chance(11)
	for _, step := range []int{1, 2, 3, 5, 7, 8, 11, 23, 43} {
		s := storeOf(t, 65536)
		m := comb{s, step, map[[3]int]int{}}
		const level = 40
		x, y := c.Below(step), c.Below(step)
		id := m.square(level, x, y)
		first := api.Cell{X: (step - x) % step, Y: (step - y) % step}
		end := api.Cell{X: (1<<level - 1 + x) / step * step, Y: (1<<level - 1 + y) / step * step}
		last := api.Cell{X: end.X - x, Y: end.Y - y}
		before := s.Len()
		s.hasBox("of a comb", id, first, last, true)
		s.hasIn("of a comb, from corner to corner", id, first, last, s.many(id))
		s.failsCells("of a comb", id, api.ErrLimit)
		for range 12 {
			two := someCells(&c, level, 2)
			low, high := api.Cell{X: min(two[0].X, two[1].X), Y: min(two[0].Y, two[1].Y)}, api.Cell{X: max(two[0].X, two[1].X), Y: max(two[0].Y, two[1].Y)}
			want := capped(m.teeth(level, low.X, high.X, x), m.teeth(level, low.Y, high.Y, y))
			s.hasIn("of a comb", id, low, high, want)
		}
		s.hasIn("of a comb, a single cell", id, last, last, 1)
		s.hasIn("of a comb, beyond the corners", id, api.Cell{X: last.X + 1, Y: math.MinInt}, api.Cell{X: math.MaxInt, Y: math.MaxInt}, 0)
		if s.Len() != before {
			t.Fatalf("there are %d squares, and were %d", s.Len(), before)
		}
	}
}

// over is the square of a level made of a tile, and of the same squares over and over: 1 tells where the one below comes, 0 where none lives.
func (s store) over(level int, leaf int, way [4]int) int {
	s.t.Helper()
	id := leaf
	for now := 3; now < level; now++ {
		k := [2]int{must(s.t)(s.Empty(now)), id}
		id = s.four(k[way[0]], k[way[1]], k[way[2]], k[way[3]])
	}
	return id
}

// FD2: a line from corner to corner, of 2^level cells.
func TestDiagonal(t *testing.T) {
	c := chance.Chance(12)
	for level := 3; level <= 40; level++ {
		s := storeOf(t, 200)
		id := s.over(level, must(t)(s.Leaf(0x8040201008040201)), [4]int{1, 0, 0, 1})
		last := 1<<level - 1
		s.hasBox("of a line", id, api.Cell{}, api.Cell{X: last, Y: last}, true)
		if level > 12 {
			s.failsCells("of a line", id, api.ErrLimit)
		}
		for range 30 {
			two := someCells(&c, level, 2)
			low, high := two[0], two[1]
			want := overlap(level, max(low.X, low.Y), min(high.X, high.Y))
			s.hasIn("of a line", id, low, high, want)
		}
		s.hasIn("of a line", id, api.Cell{X: math.MinInt}, api.Cell{X: last, Y: math.MaxInt}, 1<<level)
	}
}

// FD2: rows and columns of 2^level cells at each side of a square.
func TestSides(t *testing.T) {
	c := chance.Chance(13)
	for level := 3; level <= 40; level++ {
		last := 1<<level - 1
		for _, k := range []struct {
			tile      uint64
			way       [4]int
			low, high api.Cell
		}{
			{0x00000000000000ff, [4]int{1, 1, 0, 0}, api.Cell{}, api.Cell{X: last}},
			{0xff00000000000000, [4]int{0, 0, 1, 1}, api.Cell{Y: last}, api.Cell{X: last, Y: last}},
			{0x0101010101010101, [4]int{1, 0, 1, 0}, api.Cell{}, api.Cell{Y: last}},
			{0x8080808080808080, [4]int{0, 1, 0, 1}, api.Cell{X: last}, api.Cell{X: last, Y: last}},
		} {
			s := storeOf(t, 200)
			id := s.over(level, s.lay(sheetOfBits(k.tile)), k.way)
			s.hasBox("of a side", id, k.low, k.high, true)
			s.hasIn("of a side", id, k.low, k.high, 1<<level)
			if level > 12 {
				s.failsCells("of a side", id, api.ErrLimit)
			}
			for range 20 {
				two := someCells(&c, level, 2)
				low, high := two[0], two[1]
				cut := [2]api.Cell{{X: max(low.X, k.low.X), Y: max(low.Y, k.low.Y)}, {X: min(high.X, k.high.X), Y: min(high.Y, k.high.Y)}}
				s.hasIn("of a side", id, low, high, area(level, cut[0], cut[1]))
			}
		}
	}
}

// sheetOfBits is a tile's.
func sheetOfBits(n uint64) sheet {
	p := sheet{8, make([]bool, 64)}
	for i := range p.lives {
		p.lives[i] = n>>i&1 == 1
	}
	return p
}

// FD2: the cells whose X and Y have no bit in common, 3^level of them: in rows, in columns, and in squares.
func TestNoBitInCommon(t *testing.T) {
	p := sheet{8, make([]bool, 64)}
	for i := range p.lives {
		p.lives[i] = i%8&(i/8) == 0
	}
	c := chance.Chance(14)
	three := 27
	for level := 3; level <= 40; level++ {
		s := storeOf(t, 200)
		id := s.over(level, s.lay(p), [4]int{1, 1, 1, 0})
		last := 1<<level - 1
		s.hasBox("of no bit in common", id, api.Cell{}, api.Cell{X: last, Y: last}, true)
		if low := 1 << (level - 1); level < 40 {
			s.hasIn("of no bit in common", id, api.Cell{X: -1}, api.Cell{X: last, Y: last}, min(three, 1<<62))
			s.hasIn("of no bit in common", id, api.Cell{}, api.Cell{X: low - 1, Y: low - 1}, three/3)
			s.hasIn("of no bit in common", id, api.Cell{X: low, Y: 0}, api.Cell{X: last, Y: last}, three/3)
			s.hasIn("of no bit in common", id, api.Cell{X: low, Y: low}, api.Cell{X: last, Y: last}, 0)
			three *= 3
		}
		for range 10 {
			n := anyPlace(&c, level)
			want := 1 << (level - bits.OnesCount(uint(n)))
			s.hasIn("of no bit in common, in a row", id, api.Cell{Y: n}, api.Cell{X: last, Y: n}, want)
			s.hasIn("of no bit in common, in a column", id, api.Cell{X: n}, api.Cell{X: n, Y: last}, want)
		}
	}
}

// FD2: a cell each in a few corners of very many squares that are all the same: the sides are those of the outermost ones.
func TestSame(t *testing.T) {
	for level := 3; level <= 40; level++ {
		s := storeOf(t, 300)
		for _, at := range []api.Cell{{X: 3, Y: 5}, {X: 7, Y: 0}, {X: 0, Y: 7}, {X: 4, Y: 4}} {
			leaf := must(t)(Of(s.Store, 3, []api.Cell{at}))
			id := s.over(level, leaf, [4]int{1, 1, 1, 1})
			high := api.Cell{X: 1<<level - 8 + at.X, Y: 1<<level - 8 + at.Y}
			s.hasBox("of the same over and over", id, at, high, true)
			many := 1 << min(2*level-6, 62)
			s.hasIn("of the same over and over", id, at, high, many)
			if level > 3 && level < 34 {
				row := 1 << (level - 3)
				s.hasIn("of the same, without a column", id, api.Cell{X: at.X + 1}, high, many-row)
				s.hasIn("of the same, without a row", id, at, api.Cell{X: high.X, Y: high.Y - 1}, many-row)
			}
		}
	}
}
