package cells

import (
	"errors"
	"math"
	"slices"
	"testing"

	"quilt/api"
	"quilt/chance"
	"quilt/rule"
)

// grid is a rectangle of the plane, each of its cells told, with so wide a margin that none is born at its sides: another way than the package's own, to hold it against.
type grid struct {
	left, above, wide, high int
	lives                   []bool
}

// laid is the grid of cells that lie near each other, with a margin about them.
func laid(l []api.Cell, margin int) grid {
	if len(l) == 0 {
		return grid{}
	}
	left, right, above, below := l[0].X, l[0].X, l[0].Y, l[0].Y
	for _, c := range l {
		left, right, above, below = min(left, c.X), max(right, c.X), min(above, c.Y), max(below, c.Y)
	}
	g := grid{left: left - margin, above: above - margin, wide: right - left + 1 + 2*margin, high: below - above + 1 + 2*margin}
	g.lives = make([]bool, g.wide*g.high)
	for _, c := range l {
		g.lives[(c.Y-g.above)*g.wide+c.X-g.left] = true
	}
	return g
}

// has tells of the cell so far from the first one.
func (g grid) has(x, y int) bool {
	return x >= 0 && x < g.wide && y >= 0 && y < g.high && g.lives[y*g.wide+x]
}

// about is how many of its eight neighbours live.
func (g grid) about(x, y int) int {
	n := 0
	for _, d := range [][2]int{{-1, -1}, {0, -1}, {1, -1}, {-1, 0}, {1, 0}, {-1, 1}, {0, 1}, {1, 1}} {
		if g.has(x+d[0], y+d[1]) {
			n++
		}
	}
	return n
}

// next is the grid one generation on.
func (g grid) next(r rule.Rule) grid {
	on := g
	on.lives = make([]bool, len(g.lives))
	for y := range g.high {
		for x := range g.wide {
			part := r.Born
			if g.has(x, y) {
				part = r.Live
			}
			on.lives[y*g.wide+x] = part>>g.about(x, y)&1 == 1
		}
	}
	return on
}

// cells are those that live, from above and from the left.
func (g grid) cells() []api.Cell {
	var l []api.Cell
	for y := range g.high {
		for x := range g.wide {
			if g.has(x, y) {
				l = append(l, api.Cell{X: g.left + x, Y: g.above + y})
			}
		}
	}
	return l
}

// generations are the cells of a list, and of each generation up to the n-th, as the chapter tells them, whatever their number and their places.
func generations(r rule.Rule, l []api.Cell, n int) [][]api.Cell {
	g := laid(l, n+1)
	all := [][]api.Cell{g.cells()}
	for range n {
		g = g.next(r)
		all = append(all, g.cells())
	}
	return all
}

// isTooMuch tells whether there are more cells than may be, or one beyond.
func isTooMuch(l []api.Cell) bool {
	return len(l) > 4096 || slices.ContainsFunc(l, func(c api.Cell) bool {
		return max(c.X, c.Y) > 1<<38 || min(c.X, c.Y) < -1<<38
	})
}

// stepIs holds Step of cells that may be, by a rule and a number that may be, against the grid.
func stepIs(t *testing.T, r rule.Rule, l []api.Cell, n int) {
	t.Helper()
	all := generations(r, l, n)
	before := slices.Clone(l)
	got, err := Step(r, l, n)
	if slices.ContainsFunc(all, isTooMuch) {
		fails(t, "Step", got, err, api.ErrLimit)
	} else if err != nil || !slices.Equal(got, all[n]) {
		t.Fatalf("Step(%x, %v, %d): %v, %v, want %v", r, l, n, got, err, all[n])
	}
	if !slices.Equal(l, before) {
		t.Fatal("the cells are changed")
	}
}

// steps is what Step answers, where it has to.
func steps(t *testing.T, r rule.Rule, l []api.Cell, n int) []api.Cell {
	t.Helper()
	got, err := Step(r, l, n)
	if err != nil {
		t.Fatalf("Step(%x, %v, %d): %v", r, l, n, err)
	}
	return got
}

// at are cells, told by X and Y of each.
func at(places ...int) []api.Cell {
	var l []api.Cell
	for i := 0; i < len(places); i += 2 {
		l = append(l, api.Cell{X: places[i], Y: places[i+1]})
	}
	return l
}

// moved are cells, so far to the right and down.
func moved(l []api.Cell, x, y int) []api.Cell {
	var m []api.Cell
	for _, c := range l {
		m = append(m, api.Cell{X: c.X + x, Y: c.Y + y})
	}
	return m
}

// joined are the cells of several lists, one behind the other.
func joined(l ...[]api.Cell) []api.Cell { return slices.Concat(l...) }

// apart are lists of so many cells each, far enough from each other that none is felt by another within a few generations: as many of the first kind as its number tells, and so on.
func apart(heaps [][]api.Cell, counts ...int) []api.Cell {
	var l []api.Cell
	n := 0
	for i, count := range counts {
		for range count {
			l = append(l, moved(heaps[i], n%40*16, n/40*16)...)
			n++
		}
	}
	return l
}

// wall is so many cells, each with a place of its own, no two of which are neighbours.
func wall(n int) []api.Cell {
	var l []api.Cell
	for i := range n {
		l = append(l, api.Cell{X: i % 64 * 3, Y: i / 64 * 3})
	}
	return l
}

// shuffled is a list in another order.
func shuffled(c *chance.Chance, l []api.Cell) []api.Cell {
	l = slices.Clone(l)
	for i := range l {
		j := c.Below(i + 1)
		l[i], l[j] = l[j], l[i]
	}
	return l
}

// heap is some of the cells of a square, in any order, some of them twice.
func heap(c *chance.Chance, side int) []api.Cell {
	var l []api.Cell
	of := 2 + c.Below(3)
	for i := range side * side {
		if c.Below(of) == 0 {
			l = append(l, api.Cell{X: i % side, Y: i / side})
			if c.Below(8) == 0 {
				l = append(l, l[len(l)-1])
			}
		}
	}
	return shuffled(c, l)
}

// anyRule is a rule that may be.
func anyRule(c *chance.Chance) rule.Rule {
	return rule.Rule{Born: uint16(c.Below(256)) * 2, Live: uint16(c.Below(512))}
}

var (
	life     = rule.Rule{Born: 8, Live: 12}
	nothing  = rule.Rule{}
	flooding = rule.Rule{Born: 0x1fe}
	filling  = rule.Rule{Born: 0x1fe, Live: 0x1ff}
	staying  = rule.Rule{Live: 0x1ff}
	spread   = rule.Rule{Born: 2}
	parity   = rule.Rule{Born: 0xaa, Live: 0xaa}
	someLaws = []rule.Rule{life, nothing, flooding, filling, staying, spread, parity, {Born: 1<<3 | 1<<6, Live: 12}, {Born: 4}, {Born: 1 << 8, Live: 1}}

	one     = at(0, 0)
	block   = at(0, 0, 1, 0, 0, 1, 1, 1)
	row     = at(-1, 0, 0, 0, 1, 0)
	column  = at(0, -1, 0, 0, 0, 1)
	corner  = at(0, 0, 1, 0, 0, 1) // a block a generation on, by B3/S23
	glider  = at(1, 0, 2, 1, 0, 2, 1, 2, 2, 2)
	manyGen = at(1, 0, 2, 0, 0, 1, 1, 1, 1, 2) // goes on for long, by B3/S23
)

// wrongLaws are rules that may not be: Born for 0, or a bit above 8, in one part or both.
func wrongLaws() []rule.Rule {
	l := []rule.Rule{{Born: 1}, {Born: 9, Live: 12}, {Born: 0x1ff, Live: 0x1ff}, {Born: 0xffff, Live: 0xffff}}
	for bit := 9; bit < 16; bit++ {
		high := uint16(1) << bit
		l = append(l, rule.Rule{Born: high}, rule.Rule{Live: high}, rule.Rule{Born: 8 | high, Live: 12}, rule.Rule{Born: 8, Live: 12 | high}, rule.Rule{Born: 1 | high, Live: high})
	}
	return l
}

// beyond are numbers that no cell may have; cut to fewer bits some of them were.
var beyond = []int{1<<38 + 1, -1<<38 - 1, 1<<38 + 2, 1 << 39, -1 << 39, 1 << 40, -1 << 40, 1 << 62, -1 << 62, math.MaxInt - 1, math.MinInt + 1, math.MaxInt, math.MinInt}

func isError(err error, want api.Errno) bool {
	var number api.Errno
	return errors.As(err, &number) && number == want
}

// fails asks for an error, and for no cells beside it.
func fails(t *testing.T, what string, got []api.Cell, err error, want api.Errno) {
	t.Helper()
	if len(got) != 0 || !isError(err, want) {
		t.Fatalf("%s: %v, %v, want %v", what, got, err, want)
	}
}

// answers asks for cells, and no error.
func answers(t *testing.T, what string, got []api.Cell, err error, want []api.Cell) {
	t.Helper()
	if err != nil || !slices.Equal(got, want) {
		t.Fatalf("%s: %v, %v, want %v", what, got, err, want)
	}
}

// The grid itself, by what is known of a few cells.
func TestGrid(t *testing.T) {
	for _, k := range []struct{ now, then []api.Cell }{{row, column}, {column, row}, {block, block}, {corner, block}, {one, nil}, {nil, nil}} {
		if got := generations(life, moved(k.now, 7, -9), 1)[1]; !slices.Equal(got, moved(k.then, 7, -9)) {
			t.Errorf("a generation behind %v: %v", k.now, got)
		}
	}
	if got := generations(life, glider, 4)[4]; !slices.Equal(got, moved(glider, 1, 1)) {
		t.Errorf("a glider, 4 generations on: %v", got)
	}
}
