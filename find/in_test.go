package find

import (
	"math"
	"math/bits"
	"testing"

	"quilt/api"
	"quilt/chance"
)

// FD2: all corners that there are, and some beyond, of squares of the levels 3 and 4.
func TestInEach(t *testing.T) {
	c := chance.Chance(8)
	for i, width := range []int{8, 8, 8, 8, 16} {
		s := storeOf(t, 100)
		p := anySheet(&c, width, []int{1, 2, 3, 10, 2}[i])
		id := s.lay(p)
		for at := range (width + 2) * (width + 2) {
			low := api.Cell{X: at%(width+2) - 1, Y: at/(width+2) - 1}
			for y := low.Y - 1; y <= width; y++ {
				n := 0 // from low to x, y: what it is to x - 1, and the column x
				for x := low.X - 1; x <= width; x++ {
					if x >= low.X {
						n += p.in(api.Cell{X: x, Y: low.Y}, api.Cell{X: x, Y: y})
					}
					s.hasIn("of each corners", id, low, api.Cell{X: x, Y: y}, n)
				}
				if width == 16 {
					y += c.Below(6)
				}
			}
		}
	}
}

// FD2: low above high in X, in Y, in both, near and far.
func TestInTurned(t *testing.T) {
	for level := 3; level <= 40; level++ {
		s := storeOf(t, 1000)
		last := 1<<level - 1
		for _, id := range []int{s.full(level), must(t)(Of(s.Store, level, corners(level)))} {
			for _, k := range [][2]int{{1, 0}, {last, 0}, {last, last - 1}, {0, -1}, {last + 1, last}, {math.MaxInt, math.MinInt}, {math.MaxInt, 0}, {last, math.MinInt}, {0, math.MinInt}, {math.MinInt + 1, math.MinInt}} {
				more, less := k[0], k[1]
				for _, good := range [][2]int{{0, last}, {0, 0}, {last, last}, {math.MinInt, math.MaxInt}} {
					s.hasIn("turned in X", id, api.Cell{X: more, Y: good[0]}, api.Cell{X: less, Y: good[1]}, 0)
					s.hasIn("turned in Y", id, api.Cell{X: good[0], Y: more}, api.Cell{X: good[1], Y: less}, 0)
				}
				s.hasIn("turned in both", id, api.Cell{X: more, Y: more}, api.Cell{X: less, Y: less}, 0)
			}
		}
	}
}

// area is how many cells a square of a level has between two corners, 2^62 at most.
func area(level int, low, high api.Cell) int {
	return capped(overlap(level, low.X, high.X), overlap(level, low.Y, high.Y))
}

// overlap is how many numbers from low to high are a place.
func overlap(level, low, high int) int {
	low, high = max(low, 0), min(high, 1<<level-1)
	if low > high {
		return 0
	}
	return high - low + 1
}

// capped is a product of two that are 2^40 at most, 2^62 at most.
func capped(a, b int) int {
	if over, n := bits.Mul64(uint64(a), uint64(b)); over == 0 {
		return int(min(n, 1<<62))
	}
	return 1 << 62
}

// bounds are numbers about the sides of a square, about its middle, and as far away as numbers go.
func bounds(level int) []int {
	width := 1 << level
	return []int{math.MinInt, -width, -1, 0, 1, 7, width/2 - 1, width / 2, width - 9, width - 2, width - 1, width, 2 * width, math.MaxInt}
}

// FD2: corners within a full square and beyond each of its sides, on one side and on both: just the square, half of it, a row, a single cell; with more than 2^62 cells it is these.
func TestInFull(t *testing.T) {
	for _, level := range []int{3, 4, 5, 6, 17, 30, 31, 32, 39, 40} {
		s := storeOf(t, 100)
		id := s.full(level)
		for _, x := range bounds(level) {
			for _, farX := range bounds(level) {
				for _, y := range bounds(level) {
					for _, farY := range []int{math.MinInt, -1, y, 1<<level - 3, 1<<level - 1, 1 << level, math.MaxInt} {
						low, high := api.Cell{X: x, Y: y}, api.Cell{X: farX, Y: farY}
						s.hasIn("of a full square", id, low, high, area(level, low, high))
					}
				}
			}
		}
	}
}

// FD2: of full squares, sizes about 2^62 cells: just as many, one row less, one row more, much more.
func TestInMost(t *testing.T) {
	s := storeOf(t, 200)
	id := s.full(40)
	const most = 1 << 62
	for _, k := range []struct{ wide, high, want int }{
		{1 << 31, 1 << 31, most}, {1 << 31, 1<<31 - 1, most - 1<<31}, {1<<31 - 1, 1 << 31, most - 1<<31}, {1<<31 + 1, 1 << 31, most},
		{1 << 40, 1 << 22, most}, {1 << 40, 1<<22 - 1, most - 1<<40}, {1 << 22, 1 << 40, most}, {1<<22 - 1, 1 << 40, most - 1<<40},
		{1 << 40, 1<<22 + 1, most}, {1<<40 - 1, 1 << 22, most - 1<<22}, {1 << 40, 1 << 23, most}, {1 << 40, 1 << 24, most}, {1 << 32, 1 << 32, most},
		{1 << 39, 1 << 40, most}, {1<<40 - 1, 1<<40 - 1, most}, {1 << 40, 1 << 40, most}, {3 << 38, 3 << 38, most}, {1<<40 - 2, 1 << 40, most},
	} {
		for _, at := range []api.Cell{{}, {X: 1<<40 - k.wide, Y: 1<<40 - k.high}, {X: (1<<40 - k.wide) / 2, Y: (1<<40 - k.high) / 3}} {
			s.hasIn("of very many", id, at, api.Cell{X: at.X + k.wide - 1, Y: at.Y + k.high - 1}, k.want)
		}
	}
	less := must(t)(s.Set(s.full(31), 5, 6, false))
	s.hasIn("of one less than 2^62", less, api.Cell{}, api.Cell{X: 1<<31 - 1, Y: 1<<31 - 1}, most-1)
	s.hasIn("of one less than 2^62", s.widened(less, 40, 2), api.Cell{X: -7}, api.Cell{X: 1 << 31, Y: 1<<40 - 1}, most-1)
	one := s.widened(must(t)(s.Leaf(1<<63)), 31, 1)
	id = s.four(less, one, one, one)
	s.hasIn("of one less, and others", id, api.Cell{}, api.Cell{X: 1<<32 - 9, Y: 1<<31 - 1}, most-1)
	s.hasIn("of one less, and one", id, api.Cell{}, api.Cell{X: 1<<32 - 1, Y: 1<<32 - 9}, most)
	s.hasIn("of one less, and three", id, api.Cell{}, api.Cell{X: 1 << 32, Y: 1 << 32}, most)
}

// FD2: of few cells in squares of any level, between any corners: those of the list that are there.
func TestInSome(t *testing.T) {
	c := chance.Chance(9)
	for range 200 {
		level := 3 + c.Below(38)
		l := someCells(&c, level, c.Below(40))
		s := storeOf(t, 65536)
		id := must(t)(Of(s.Store, level, l))
		l = sorted(l)
		for range 30 {
			two := someCells(&c, level, 2)
			low, high := two[0], two[1]
			if c.Below(4) > 0 {
				low, high = api.Cell{X: min(low.X, high.X), Y: min(low.Y, high.Y)}, api.Cell{X: max(low.X, high.X), Y: max(low.Y, high.Y)}
			}
			if len(l) > 0 && c.Below(3) == 0 {
				low = l[c.Below(len(l))]
			}
			n := 0
			for _, at := range l {
				if between(at, low, high) {
					n++
				}
			}
			s.hasIn("of some cells", id, low, high, n)
		}
		for _, at := range l {
			s.hasIn("of a single cell", id, at, at, 1)
		}
	}
}

// FD2: in any deep squares, cut in two or in four anywhere: the parts are the whole.
func TestInParts(t *testing.T) {
	c := chance.Chance(10)
	for i := range 40 {
		level := 3 + i%28
		s := storeOf(t, 65536)
		last := 1<<level - 1
		for _, id := range anyDeep(&c, s, level, 4+c.Below(20)) {
			x, y := anyPlace(&c, level), anyPlace(&c, level)
			sum := 0
			for _, part := range [][2]api.Cell{
				{{X: -5, Y: -5}, {X: x - 1, Y: y - 1}}, {{X: x}, {X: last + 1, Y: y - 1}}, {{Y: y}, {X: x - 1, Y: math.MaxInt}}, {{X: x, Y: y}, {X: last, Y: last}},
			} {
				n, err := In(s.Store, id, part[0], part[1])
				if err != nil {
					t.Fatal(err)
				}
				sum += n
			}
			if sum != s.many(id) {
				t.Fatalf("the parts have %d cells, the whole has %d", sum, s.many(id))
			}
		}
	}
}
