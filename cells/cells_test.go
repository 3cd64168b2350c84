package cells

import (
	"math"
	"slices"
	"testing"

	"quilt/api"
	"quilt/chance"
)

// CE1: what is known at sight.
func TestSortedKnown(t *testing.T) {
	for _, k := range []struct{ l, want []api.Cell }{
		{nil, nil},
		{[]api.Cell{}, nil},
		{at(0, 0), at(0, 0)},
		{at(-5, 9), at(-5, 9)},
		{at(1, 0, 0, 0), at(0, 0, 1, 0)},
		{at(0, 1, 0, 0), at(0, 0, 0, 1)},
		{at(0, 1, 1, 0), at(1, 0, 0, 1)},
		{at(5, -1, -5, 1), at(5, -1, -5, 1)},
		{at(-5, 1, 5, -1), at(5, -1, -5, 1)},
		{at(3, 3, 3, 3), at(3, 3)},
		{at(5, 1, 0, 2, 0, -1, 5, 1, -3, 1, 0, 2), at(0, -1, -3, 1, 5, 1, 0, 2)},
		{at(1<<32, 0, 0, 0, 1, 0), at(0, 0, 1, 0, 1<<32, 0)},
		{at(0, 1<<32, 0, 1, 0, -1<<32), at(0, -1<<32, 0, 1, 0, 1<<32)},
	} {
		got, err := Sorted(k.l)
		answers(t, "Sorted", got, err, k.want)
	}
}

// eachOrder goes over a list in every order, from its k-th cell on.
func eachOrder(l []api.Cell, k int, do func()) {
	if k == len(l) {
		do()
		return
	}
	for i := k; i < len(l); i++ {
		l[k], l[i] = l[i], l[k]
		eachOrder(l, k+1, do)
		l[k], l[i] = l[i], l[k]
	}
}

// CE1: cells in every order, none of them twice, one, and all.
func TestSortedEveryOrder(t *testing.T) {
	for _, k := range []struct{ l, want []api.Cell }{
		{at(2, -1, -1, 0, 0, 0, 1, 0, -2, 1, 7, 1), at(2, -1, -1, 0, 0, 0, 1, 0, -2, 1, 7, 1)},
		{at(0, 0, 0, 0, 1, 0, 0, 1, -1, -1, 1, 0), at(-1, -1, 0, 0, 1, 0, 0, 1)},
		{at(4, 4, 4, 4, 4, 4, 4, 4, 4, 4), at(4, 4)},
	} {
		eachOrder(slices.Clone(k.l), 0, func() {
			got, err := Sorted(k.l)
			answers(t, "Sorted", got, err, k.want)
		})
		l := slices.Clone(k.l)
		n := 0
		eachOrder(l, 0, func() {
			n++
			got, err := Sorted(l)
			answers(t, "Sorted", got, err, k.want)
		})
		if n != 720 && n != 120 {
			t.Errorf("%d orders", n)
		}
	}
}

// CE1: any cells near each other, some of them twice, held against a grid that is gone over row by row.
func TestSortedAny(t *testing.T) {
	c := chance.Chance(1)
	for range 400 {
		l := moved(heap(&c, 1+c.Below(12)), c.Below(20)-10, c.Below(20)-10)
		got, err := Sorted(l)
		answers(t, "Sorted", got, err, laid(l, 0).cells())
	}
}

// CE1: as many cells as there may be, and more; how many are there twice does not matter.
func TestSortedMost(t *testing.T) {
	c := chance.Chance(2)
	all := wall(4096)
	got, err := Sorted(shuffled(&c, all))
	answers(t, "Sorted of 4,096", got, err, all)
	got, err = Sorted(shuffled(&c, joined(all[:2048], all[:2048])))
	answers(t, "Sorted of 4,096, each twice", got, err, all[:2048])
	got, err = Sorted(slices.Repeat(one, 4096))
	answers(t, "Sorted of 4,096 times one", got, err, one)
	for _, l := range [][]api.Cell{wall(4097), joined(all, all[:1]), slices.Repeat(one, 4097), wall(5000), joined(all, all), slices.Repeat(one, 1<<16), slices.Repeat(all, 17)} {
		got, err := Sorted(l)
		fails(t, "Sorted of more", got, err, api.ErrLong)
	}
}

// CE1: cells at all sides and corners of where they may be.
func TestSortedEdge(t *testing.T) {
	const edge = 1 << 38
	l := at(-edge, -edge, 0, -edge, edge, -edge, -edge, 0, 0, 0, edge, 0, -edge, edge, 0, edge, edge, edge)
	for i := range l {
		got, err := Sorted(l[i : i+1])
		answers(t, "Sorted of one", got, err, l[i:i+1])
	}
	c := chance.Chance(3)
	for range 100 {
		got, err := Sorted(shuffled(&c, l))
		answers(t, "Sorted", got, err, l)
	}
}

// farCells are cells that may not be, beyond to one side or to two.
func farCells() []api.Cell {
	var l []api.Cell
	for _, far := range beyond {
		for _, other := range append([]int{0, 1, -1, 1 << 38, -1 << 38}, beyond...) {
			l = append(l, at(far, other, other, far)...)
		}
	}
	return l
}

// CE1: one cell beyond, alone and at each place among others.
func TestSortedBeyond(t *testing.T) {
	for _, far := range farCells() {
		got, err := Sorted([]api.Cell{far})
		fails(t, "Sorted of one beyond", got, err, api.ErrRange)
		for i := range len(glider) + 1 {
			got, err := Sorted(slices.Insert(slices.Clone(glider), i, far))
			fails(t, "Sorted with one beyond", got, err, api.ErrRange)
		}
	}
	for _, i := range []int{0, 1, 2047, 4094, 4095} {
		l := wall(4096)
		l[i].X = 1<<38 + 1
		got, err := Sorted(l)
		fails(t, "Sorted of 4,096 with one beyond", got, err, api.ErrRange)
	}
}

// CE1: too many are told ahead of one beyond.
func TestSortedOrder(t *testing.T) {
	for _, far := range farCells() {
		for _, l := range [][]api.Cell{slices.Repeat([]api.Cell{far}, 4097), append(wall(4096), far), joined([]api.Cell{far}, wall(4096))} {
			got, err := Sorted(l)
			fails(t, "Sorted of too many, one beyond", got, err, api.ErrLong)
		}
	}
}

func hasIs(t *testing.T, l []api.Cell, c api.Cell, want bool) {
	t.Helper()
	before := slices.Clone(l)
	if got := Has(l, c); got != want {
		t.Fatalf("Has(%v, %v): %v", l, c, got)
	}
	if !slices.Equal(l, before) {
		t.Fatal("the cells are changed")
	}
}

// CE1: cells that are, and all that are not about them, in lists of every order.
func TestHas(t *testing.T) {
	c := chance.Chance(4)
	for range 100 {
		side := 1 + c.Below(8)
		l := heap(&c, side)
		g := laid(l, side+1)
		for y := range g.high {
			for x := range g.wide {
				hasIs(t, l, api.Cell{X: g.left + x, Y: g.above + y}, g.has(x, y))
			}
		}
	}
	l := joined(glider, at(2, 0, -1, 0))
	eachOrder(l, 0, func() {
		hasIs(t, l, api.Cell{X: 2, Y: 1}, true)
		hasIs(t, l, api.Cell{X: 1, Y: 1}, false)
		hasIs(t, l, api.Cell{X: -1}, true)
		hasIs(t, l, api.Cell{Y: -1}, false)
	})
}

// CE1: no cells, and cells that only look alike.
func TestHasNot(t *testing.T) {
	hasIs(t, nil, api.Cell{}, false)
	hasIs(t, []api.Cell{}, api.Cell{}, false)
	for _, c := range at(4, 3, -3, 4, 3, -4, 3, 3, 4, 4, 3, 0, 0, 4, 0, 0, 3+1<<32, 4, 3, 4+1<<32, 3-1<<32, 4) {
		hasIs(t, at(3, 4), c, false)
		hasIs(t, []api.Cell{c}, api.Cell{X: 3, Y: 4}, false)
		hasIs(t, []api.Cell{c}, c, true)
	}
}

// CE1: whatever is in a list is there, also what may not be, and however long it is.
func TestHasAny(t *testing.T) {
	far := farCells()
	for i, c := range far {
		hasIs(t, glider, c, false)
		hasIs(t, append(slices.Clone(glider), c), c, true)
		hasIs(t, far[:i], c, slices.Index(far, c) < i)
		hasIs(t, far, c, true)
	}
	l := wall(9000)
	for i, c := range l {
		if i%500 < 2 || i > 8997 {
			hasIs(t, l, c, true)
			hasIs(t, l, api.Cell{X: c.X + 1, Y: c.Y}, false)
			hasIs(t, l, api.Cell{X: c.X, Y: c.Y + 1}, false)
		}
	}
}

func boxIs(t *testing.T, l []api.Cell, left, above, right, below int) {
	t.Helper()
	before := slices.Clone(l)
	least, greatest, ok := Box(l)
	if want := at(left, above, right, below); !ok || least != want[0] || greatest != want[1] {
		t.Fatalf("Box(%v): %v, %v, %v, want %v", l, least, greatest, ok, want)
	}
	if !slices.Equal(l, before) {
		t.Fatal("the cells are changed")
	}
}

// CE1: of none there is no box.
func TestBoxNone(t *testing.T) {
	for _, l := range [][]api.Cell{nil, {}, wall(3)[:0]} {
		if least, greatest, ok := Box(l); ok || least != (api.Cell{}) || greatest != (api.Cell{}) {
			t.Errorf("Box of none: %v, %v, %v", least, greatest, ok)
		}
	}
}

// CE1: of one, of some in every order, of far ones, and of such as may not be.
func TestBoxKnown(t *testing.T) {
	const least, greatest = math.MinInt, math.MaxInt
	for _, far := range append(farCells(), at(0, 0, 5, -7, -1<<38, 1<<38)...) {
		boxIs(t, []api.Cell{far}, far.X, far.Y, far.X, far.Y)
		boxIs(t, []api.Cell{far, far}, far.X, far.Y, far.X, far.Y)
		boxIs(t, []api.Cell{far, {X: 3, Y: 4}}, min(far.X, 3), min(far.Y, 4), max(far.X, 3), max(far.Y, 4))
	}
	for _, k := range []struct {
		l    []api.Cell
		want [4]int
	}{
		{at(3, 4, 3, 4), [4]int{3, 4, 3, 4}},
		{at(3, 4, 9, 4, 5, 4), [4]int{3, 4, 9, 4}},
		{at(-3, -4, -3, -9, -3, -5), [4]int{-3, -9, -3, -4}},
		{at(5, 0, 0, 6, -7, 1, 1, -8), [4]int{-7, -8, 5, 6}},
		{at(5, 6, 7, 8, 6, 6, 7, 7, 6, 8), [4]int{5, 6, 7, 8}},
		{at(-5, -6, -7, -8, -6, -6), [4]int{-7, -8, -5, -6}},
		{at(-1<<38, 1<<38, 1<<38, -1<<38), [4]int{-1 << 38, -1 << 38, 1 << 38, 1 << 38}},
		{at(least, greatest, greatest, least, 0, 0), [4]int{least, least, greatest, greatest}},
		{at(least, least, 0, 0), [4]int{least, least, 0, 0}},
		{at(greatest, greatest, 0, 0), [4]int{0, 0, greatest, greatest}},
	} {
		l := slices.Clone(k.l)
		eachOrder(l, 0, func() { boxIs(t, l, k.want[0], k.want[1], k.want[2], k.want[3]) })
	}
}

// CE1: any cells; each corner's numbers are some cell's, and none lies outside. Of more than there may be, too.
func TestBoxAny(t *testing.T) {
	c := chance.Chance(5)
	for range 300 {
		var l []api.Cell
		for range 1 + c.Below(30) {
			l = append(l, api.Cell{X: c.Below(1<<30) - c.Below(1<<30), Y: c.Below(100) - c.Below(100)})
		}
		var x, y []int
		for _, c := range l {
			x, y = append(x, c.X), append(y, c.Y)
		}
		slices.Sort(x)
		slices.Sort(y)
		boxIs(t, l, x[0], y[0], x[len(x)-1], y[len(y)-1])
	}
	boxIs(t, wall(9000), 0, 0, 63*3, 140*3)
}
