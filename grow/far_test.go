package grow

import (
	"testing"

	"quilt/api"
)

// GW2: a block stays, however far it goes on, in squares of each level, wherever in the middle it lies.
func TestBlock(t *testing.T) {
	for level := 4; level <= 40; level++ {
		s := storeOf(t, 65536)
		g := s.grower(life)
		low, half, high := 1<<(level-2), 1<<(level-1), 3<<(level-2)-2
		for _, at := range []api.Cell{{X: low, Y: low}, {X: half - 1, Y: half - 1}, {X: high, Y: low}, {X: half, Y: high}, {X: low - 1, Y: half}} {
			l := moved(block, at.X, at.Y)
			id := s.put(level, l)
			middle := must(t)(g.Center(id))
			for j := range level - 1 {
				got, err := g.Grow(id, j)
				s.is("Grow of a block", got, err, level-1, middleOf(l, level))
				if got != middle {
					t.Fatalf("Grow of a block: %d, want %d, which is the middle", got, middle)
				}
			}
		}
	}
}

// turned are cells, seen in a mirror to the right, or down, or both.
func turned(l []api.Cell, right, down int) []api.Cell {
	l = moved(l, 0, 0)
	for i := range l {
		l[i].X *= right
		l[i].Y *= down
	}
	return l
}

// GW2: a glider goes one cell further to its side, up or down, with every four generations; four ways, each level, each j.
func TestGlider(t *testing.T) {
	for level := 5; level <= 40; level++ {
		s := storeOf(t, 65536)
		g := s.grower(life)
		half := 1 << (level - 1)
		for _, way := range []api.Cell{{X: 1, Y: 1}, {X: -1, Y: 1}, {X: 1, Y: -1}, {X: -1, Y: -1}} {
			l := turned(glider, way.X, way.Y)
			for j := 2; j <= level-2; j++ {
				far := 1 << (j - 2)
				id := s.put(level, moved(l, half, half))
				got, err := g.Grow(id, j)
				s.is("Grow of a glider", got, err, level-1, moved(l, half/2+far*way.X, half/2+far*way.Y))
			}
		}
	}
}

// GW2: a glider that goes out of the middle, and one that comes into it.
func TestGliderPasses(t *testing.T) {
	for level := 6; level <= 40; level++ {
		s := storeOf(t, 65536)
		g := s.grower(life)
		low, high := 1<<(level-2), 3<<(level-2)
		far := 1 << (level - 4) // by 2^(level-2) generations
		for _, at := range []int{low - far, low - far - 1, low - 8, low - 4, low, high - far, high - far - 2, high - 3} {
			l := moved(glider, at, at)
			got, err := g.Grow(s.put(level, l), level-2)
			s.is("Grow of a glider that passes", got, err, level-1, middleOf(moved(l, far, far), level))
		}
	}
}

// GW2: a row of three is a column a generation on, and a row again with each even number of them.
func TestRow(t *testing.T) {
	for level := 4; level <= 40; level++ {
		s := storeOf(t, 65536)
		g := s.grower(life)
		half := 1 << (level - 1)
		id := s.put(level, moved(row, half, half))
		for j := range level - 1 {
			want := row
			if j == 0 {
				want = column
			}
			got, err := g.Grow(id, j)
			s.is("Grow of a row of three", got, err, level-1, moved(want, half/2, half/2))
		}
	}
}

// GW2: a row of three, by all powers of two below 2^36 one behind the other, made wide in between, is a column: the document's second example.
func TestRowFar(t *testing.T) {
	s := storeOf(t, 65536)
	g := s.grower(life)
	id := s.put(4, moved(row, 8, 8))
	for j := range 36 {
		for s.level(id) < j+4 {
			id = must(t)(g.Wide(id))
		}
		id = must(t)(g.Grow(must(t)(g.Wide(id)), j))
	}
	half := 1 << (s.level(id) - 1)
	s.is("a row of three, far on", id, nil, s.level(id), moved(column, half, half))
}

// GW2: by odd numbers of neighbours each cell is eight, as far away as there were generations, if these are a power of two; cells that come twice are none.
func TestParity(t *testing.T) {
	start := []api.Cell{{X: 0, Y: 0}, {X: 1, Y: 0}, {X: 0, Y: 1}, {X: -3, Y: -1}, {X: 2, Y: 2}}
	for level := 5; level <= 40; level++ {
		s := storeOf(t, 65536)
		g := s.grower(parity)
		half := 1 << (level - 1)
		l := moved(start, half, half)
		id := s.put(level, l)
		for _, j := range []int{0, 1, level / 2, level - 3, level - 2} {
			odd := map[api.Cell]bool{}
			for _, c := range l {
				for _, d := range around() {
					at := api.Cell{X: c.X + d.X<<j, Y: c.Y + d.Y<<j}
					odd[at] = !odd[at]
				}
			}
			var want []api.Cell
			for at, is := range odd {
				if is {
					want = append(want, at)
				}
			}
			got, err := g.Grow(id, j)
			s.is("Grow by odd numbers", got, err, level-1, middleOf(want, level))
		}
	}
}

// GW2: what is in the corners of a square, and at the middle of its sides, comes as far as the middle's own, and no further.
func TestParityCorners(t *testing.T) {
	for level := 4; level <= 40; level++ {
		s := storeOf(t, 65536)
		g := s.grower(parity)
		last, quarter := 1<<level-1, 1<<(level-2)
		for _, k := range []struct{ now, then []api.Cell }{
			{[]api.Cell{{}}, []api.Cell{{}}},
			{[]api.Cell{{X: last, Y: last}}, []api.Cell{{X: 2*quarter - 1, Y: 2*quarter - 1}}},
			{[]api.Cell{{X: last}}, []api.Cell{{X: 2*quarter - 1}}},
			{[]api.Cell{{Y: last}}, []api.Cell{{Y: 2*quarter - 1}}},
			{[]api.Cell{{}, {X: last, Y: last}}, []api.Cell{{}, {X: 2*quarter - 1, Y: 2*quarter - 1}}},
			{[]api.Cell{{Y: 2 * quarter}}, []api.Cell{{Y: 0}, {Y: quarter}}},
		} {
			got, err := g.Grow(s.put(level, k.now), level-2)
			s.is("Grow of a corner", got, err, level-1, k.then)
			if level > 4 {
				got, err = g.Grow(s.put(level, k.now), level-3)
				s.is("Grow of a corner by less", got, err, level-1, nil)
			}
		}
	}
}

// GW2: some cells that go on for long, held against a list gone over one generation at a time.
func TestLong(t *testing.T) {
	const level, last = 11, 9
	s := storeOf(t, 65536)
	g := s.grower(life)
	half := 1 << (level - 1)
	l := moved(manyGen, half, half)
	id := s.put(level, l)
	for n, j := 1, 0; j <= last; n++ {
		l = generation(life, l)
		if n == 1<<j {
			got, err := g.Grow(id, j)
			s.is("Grow of what goes on for long", got, err, level-1, middleOf(l, level))
			j++
		}
	}
}
