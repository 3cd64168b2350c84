package cells

import (
	"math"
	"slices"
	"testing"

	"quilt/api"
	"quilt/chance"
)

func shiftIs(t *testing.T, l []api.Cell, x, y int, want []api.Cell) {
	t.Helper()
	before := slices.Clone(l)
	got, err := Shift(l, x, y)
	answers(t, "Shift", got, err, want)
	if !slices.Equal(l, before) {
		t.Fatal("the cells are changed")
	}
}

// CE1: to each side, and not at all; sorted, and each once.
func TestShiftKnown(t *testing.T) {
	l := at(2, 1, 0, 0, -1, 1, 0, 0)
	shiftIs(t, l, 0, 0, at(0, 0, -1, 1, 2, 1))
	shiftIs(t, l, 1, 0, at(1, 0, 0, 1, 3, 1))
	shiftIs(t, l, -1, 0, at(-1, 0, -2, 1, 1, 1))
	shiftIs(t, l, 0, 1, at(0, 1, -1, 2, 2, 2))
	shiftIs(t, l, 0, -1, at(0, -1, -1, 0, 2, 0))
	shiftIs(t, l, 300, -7, at(300, -7, 299, -6, 302, -6))
	shiftIs(t, l, 1<<32, 1<<33, at(1<<32, 1<<33, 1<<32-1, 1<<33+1, 1<<32+2, 1<<33+1))
	shiftIs(t, wall(4096), 5, 6, moved(wall(4096), 5, 6))
}

// CE1: any cells, there and back; by nothing they are Sorted's.
func TestShiftBack(t *testing.T) {
	c := chance.Chance(6)
	for range 200 {
		l := heap(&c, 1+c.Below(9))
		sorted, err := Sorted(l)
		if err != nil {
			t.Fatal(err)
		}
		shiftIs(t, l, 0, 0, sorted)
		for _, far := range [][2]int{{3, -4}, {-1 << 37, 1 << 37}, {1<<38 - 10, -1 << 38}, {-1 << 38, 1<<38 - 10}} {
			there := moved(sorted, far[0], far[1])
			shiftIs(t, l, far[0], far[1], there)
			shiftIs(t, shuffled(&c, there), -far[0], -far[1], sorted)
		}
	}
}

// CE1: just to each side, and one beyond it; from one side to the other, too.
func TestShiftEdge(t *testing.T) {
	const edge = 1 << 38
	for _, from := range []int{0, 1, -1, 77, edge - 1, 1 - edge, edge, -edge} {
		for _, to := range []int{edge, -edge} {
			shiftIs(t, at(from, 5), to-from, -5, at(to, 0))
			shiftIs(t, at(5, from), -5, to-from, at(0, to))
			out := 1
			if to < 0 {
				out = -1
			}
			got, err := Shift(at(from, 5), to-from+out, 0)
			fails(t, "Shift by one too far to the side", got, err, api.ErrRange)
			got, err = Shift(at(5, from), 0, to-from+out)
			fails(t, "Shift by one too far up or down", got, err, api.ErrRange)
		}
	}
	l := at(-edge, -edge, edge, -edge, -edge, edge, edge, edge)
	shiftIs(t, l, 0, 0, l)
	for _, d := range at(1, 0, -1, 0, 0, 1, 0, -1) {
		got, err := Shift(l, d.X, d.Y)
		fails(t, "Shift of cells at all corners", got, err, api.ErrRange)
	}
}

// CE1: whichever cell of several comes to be beyond.
func TestShiftOneBeyond(t *testing.T) {
	c := chance.Chance(7)
	for range 20 {
		for _, d := range [][2]int{{1<<38 - 1, 0}, {0, 1<<38 - 1}} {
			shiftIs(t, shuffled(&c, block), d[0], d[1], moved(block, d[0], d[1]))
			got, err := Shift(shuffled(&c, block), d[0]+min(d[0], 1), d[1]+min(d[1], 1))
			fails(t, "Shift with two beyond", got, err, api.ErrRange)
		}
		got, err := Shift(shuffled(&c, at(0, 0, 1<<38, 3, 1, 7)), 1, 0)
		fails(t, "Shift with one beyond", got, err, api.ErrRange)
		got, err = Shift(shuffled(&c, at(0, 0, 3, -1<<38, 1, 7)), 0, -1)
		fails(t, "Shift with one beyond", got, err, api.ErrRange)
	}
}

// CE1: numbers by which no cell can be moved, up to those with which sums wrap round. Of no cells none is moved.
func TestShiftGreat(t *testing.T) {
	const edge = 1 << 38
	for _, far := range []int{2*edge + 1, -2*edge - 1, 1 << 40, -1 << 40, 1 << 62, -1 << 62, math.MaxInt - edge, math.MaxInt - edge + 1, math.MinInt + edge, math.MinInt + edge - 1, math.MaxInt - 1, math.MinInt + 1, math.MaxInt, math.MinInt} {
		for _, c := range at(0, 0, 1, 1, -1, -1, edge, edge, -edge, -edge, edge, -edge, -edge, edge) {
			for _, other := range []int{0, far, -far} {
				got, err := Shift([]api.Cell{c}, far, other)
				fails(t, "Shift", got, err, api.ErrRange)
				got, err = Shift([]api.Cell{c}, other, far)
				fails(t, "Shift", got, err, api.ErrRange)
			}
		}
		shiftIs(t, nil, far, -far, nil)
		shiftIs(t, []api.Cell{}, 0, far, nil)
	}
	shiftIs(t, nil, 0, 0, nil)
}

// CE1: Sorted's errors, in its order, also where the cells moved might be.
func TestShiftOrder(t *testing.T) {
	for _, d := range [][2]int{{0, 0}, {-1, -1}, {1, 1}, {-1 << 38, 0}, {0, -1 << 38}, {math.MaxInt, math.MinInt}} {
		for _, l := range [][]api.Cell{wall(4097), slices.Repeat(one, 4097), append(wall(4096), farCells()[0])} {
			got, err := Shift(l, d[0], d[1])
			fails(t, "Shift of too many", got, err, api.ErrLong)
		}
		for _, far := range farCells() {
			got, err := Shift(append(slices.Clone(glider), far), d[0], d[1])
			fails(t, "Shift with one beyond", got, err, api.ErrRange)
		}
	}
	for _, far := range at(1<<38+1, 0, -1<<38-1, 0, 0, 1<<38+1, 0, -1<<38-1) {
		got, err := Shift([]api.Cell{far}, -far.X, -far.Y)
		fails(t, "Shift back from beyond", got, err, api.ErrRange)
	}
}
