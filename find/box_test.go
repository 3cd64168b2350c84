package find

import (
	"testing"

	"quilt/api"
	"quilt/chance"
)

// FD2: the document's example.
func TestExample(t *testing.T) {
	s := storeOf(t, 50)
	c := api.Cell{X: 9, Y: 9}
	s.hasBox("the example", must(t)(Of(s.Store, 4, []api.Cell{c})), c, c, true)
}

// FD2: a single cell at each corner of squares of each level, each two of them, and all.
func TestBoxCorners(t *testing.T) {
	for level := 3; level <= 40; level++ {
		s := storeOf(t, 2000)
		l := corners(level)
		for i, c := range l {
			s.hasBox("of one corner", must(t)(Of(s.Store, level, l[i:i+1])), c, c, true)
			for j, d := range l[:i] {
				low, high := api.Cell{X: min(c.X, d.X), Y: min(c.Y, d.Y)}, api.Cell{X: max(c.X, d.X), Y: max(c.Y, d.Y)}
				s.hasBox("of two corners", must(t)(Of(s.Store, level, []api.Cell{c, l[j]})), low, high, true)
			}
		}
		s.hasBox("of all corners", must(t)(Of(s.Store, level, l)), l[0], l[3], true)
	}
}

// FD2: a single cell at each place of a square of level 4, and of one far within a wider one.
func TestBoxOne(t *testing.T) {
	s := storeOf(t, 65536)
	for i := range 256 {
		c := api.Cell{X: i % 16, Y: i / 16}
		s.hasBox("of one cell", must(t)(Of(s.Store, 4, []api.Cell{c})), c, c, true)
		c = api.Cell{X: 1<<38 - 8 + c.X, Y: 3<<37 - 8 + c.Y}
		s.hasBox("of one cell far within", must(t)(Of(s.Store, 40, []api.Cell{c})), c, c, true)
	}
}

// FD2: the four sides each by another cell, in any squares; and what comes of it if the one at a side goes.
func TestBoxSome(t *testing.T) {
	c := chance.Chance(6)
	for range 300 {
		level := 3 + c.Below(38)
		l := someCells(&c, level, 1+c.Below(12))
		s := storeOf(t, 65536)
		for ; len(l) > 0; l = l[1:] {
			low, high := l[0], l[0]
			for _, at := range l {
				low = api.Cell{X: min(low.X, at.X), Y: min(low.Y, at.Y)}
				high = api.Cell{X: max(high.X, at.X), Y: max(high.Y, at.Y)}
			}
			id := must(t)(Of(s.Store, level, l))
			s.hasBox("of some cells", id, low, high, true)
			s.hasIn("of some cells: Box", id, low, high, len(sorted(l)))
		}
	}
}

// FD2: full squares of each level, and such as the i-th part of wider ones.
func TestBoxFull(t *testing.T) {
	s := storeOf(t, 20000)
	for level := 3; level <= 40; level++ {
		full, last := s.full(level), 1<<level-1
		s.hasBox("of a full square", full, api.Cell{}, api.Cell{X: last, Y: last}, true)
		if level < 40 {
			for i := range 4 {
				at := api.Cell{X: i % 2 << level, Y: i / 2 << level}
				s.hasBox("of a full part", s.widened(full, level+1, i), at, api.Cell{X: at.X + last, Y: at.Y + last}, true)
			}
		}
	}
}

// anyDeep are squares of a level made of such of the level below by chance, so many of each, with few without cells: what comes many times within wider ones.
func anyDeep(c *chance.Chance, s store, level, many int) []int {
	s.t.Helper()
	l := []int{must(s.t)(s.Leaf(0))}
	for range many {
		l = append(l, s.lay(anySheet(c, 8, 1+c.Below(80))))
	}
	for now := 3; now < level; now++ {
		empty := must(s.t)(s.Empty(now + 1))
		next := []int{empty}
		for range many {
			var k [4]int
			for i := range k {
				k[i] = l[c.Below(len(l))*min(c.Below(3), 1)]
			}
			next = append(next, must(s.t)(s.Node(k)))
		}
		l = next
	}
	return l
}

// FD2, FD3: in any deep squares all cells lie between Box's corners, and on each of its sides lies one at least.
func TestBoxTight(t *testing.T) {
	c := chance.Chance(7)
	for i := range 40 {
		level := 3 + i%28 // up to 2^60 cells, so that each is counted
		s := storeOf(t, 65536)
		for _, id := range anyDeep(&c, s, level, 4+c.Below(30)) {
			s.boxIsTight(id)
		}
	}
}

func (s store) boxIsTight(id int) {
	s.t.Helper()
	low, high, any, err := Box(s.Store, id)
	if err != nil || any != (s.many(id) > 0) {
		s.t.Fatalf("Box: %v, %v, with %d cells", any, err, s.many(id))
	}
	if !any {
		return
	}
	s.hasIn("from corner to corner", id, low, high, s.many(id))
	for _, side := range [][2]api.Cell{
		{low, {X: low.X, Y: high.Y}}, {low, {X: high.X, Y: low.Y}}, {{X: high.X, Y: low.Y}, high}, {{X: low.X, Y: high.Y}, high},
	} {
		if n, err := In(s.Store, id, side[0], side[1]); n < 1 || err != nil {
			s.t.Fatalf("In of a side of Box: %d, %v", n, err)
		}
	}
}
