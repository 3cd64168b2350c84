package find

import (
	"cmp"
	"errors"
	"math"
	"slices"
	"testing"

	"quilt/api"
	"quilt/chance"
	"quilt/quad"
	"quilt/tile"
)

const allLive = tile.Tile(math.MaxUint64)

// store is one with a tester, who asks for its squares.
type store struct {
	t *testing.T
	*quad.Store
}

func storeOf(t *testing.T, room int) store {
	t.Helper()
	s, err := quad.New(room)
	if err != nil {
		t.Fatal(err)
	}
	return store{t, s}
}

// must is the number that a call answers, where it has to answer one.
func must(t *testing.T) func(id int, err error) int {
	return func(id int, err error) int {
		t.Helper()
		if err != nil || id < 1 {
			t.Fatalf("a call that has to answer a number: %d, %v", id, err)
		}
		return id
	}
}

// four is the square of four.
func (s store) four(k ...int) int {
	s.t.Helper()
	return must(s.t)(s.Node([4]int(k)))
}

// level is that of a square which has to be there.
func (s store) level(id int) int {
	s.t.Helper()
	return must(s.t)(s.Level(id))
}

// many is how many cells of a square live.
func (s store) many(id int) int {
	s.t.Helper()
	n, err := s.Count(id)
	if err != nil {
		s.t.Fatal(err)
	}
	return n
}

// widened is a square made wider, up to a level, as the i-th of its four each time, among others without cells.
func (s store) widened(id, level, i int) int {
	s.t.Helper()
	for now := s.level(id); now < level; now++ {
		empty := must(s.t)(s.Empty(now))
		k := [4]int{empty, empty, empty, empty}
		k[i] = id
		id = must(s.t)(s.Node(k))
	}
	return id
}

// full is the square of a level in which all cells live.
func (s store) full(level int) int {
	s.t.Helper()
	id := must(s.t)(s.Leaf(allLive))
	for range level - 3 {
		id = s.four(id, id, id, id)
	}
	return id
}

// told is all that a store tells of a square.
type told struct {
	level, count int
	tile         tile.Tile
	kids         [4]int
}

// tells are all squares of a store.
func (s store) tells() []told {
	s.t.Helper()
	l := make([]told, s.Len())
	for i := range l {
		l[i].level, l[i].count = s.level(i+1), s.many(i+1)
		l[i].tile, _ = s.Tile(i + 1)
		l[i].kids, _ = s.Kids(i + 1)
	}
	return l
}

// stays asks that a store is as it was told.
func (s store) stays(what string, before []told) {
	s.t.Helper()
	if got := s.tells(); !slices.Equal(got, before) {
		s.t.Fatalf("%s: %d squares, and there were %d, or others", what, len(got), len(before))
	}
}

// sheet is what a search cell by cell finds in a square of a low level: another way than the package's own, to hold it against.
type sheet struct {
	width int
	lives []bool // by rows
}

// search goes over all cells of a square, one by one.
func (s store) search(id int) sheet {
	s.t.Helper()
	p := sheet{width: 1 << s.level(id)}
	for y := range p.width {
		for x := range p.width {
			lives, err := s.Get(id, x, y)
			if err != nil {
				s.t.Fatal(err)
			}
			p.lives = append(p.lives, lives)
		}
	}
	return p
}

// cells are those that live, by rows from above, and from the left.
func (p sheet) cells() []api.Cell {
	var l []api.Cell
	for i, lives := range p.lives {
		if lives {
			l = append(l, api.Cell{X: i % p.width, Y: i / p.width})
		}
	}
	return l
}

// box is the least X and Y, the greatest ones, and whether any cell lives.
func (p sheet) box() (low, high api.Cell, any bool) {
	low, high = api.Cell{X: p.width, Y: p.width}, api.Cell{X: -1, Y: -1}
	for _, c := range p.cells() {
		low, high = api.Cell{X: min(low.X, c.X), Y: min(low.Y, c.Y)}, api.Cell{X: max(high.X, c.X), Y: max(high.Y, c.Y)}
		any = true
	}
	if !any {
		return api.Cell{}, api.Cell{}, false
	}
	return low, high, true
}

// in is how many cells live between two corners.
func (p sheet) in(low, high api.Cell) int {
	n := 0
	for _, c := range p.cells() {
		if between(c, low, high) {
			n++
		}
	}
	return n
}

func between(c, low, high api.Cell) bool {
	return c.X >= low.X && c.X <= high.X && c.Y >= low.Y && c.Y <= high.Y
}

// anySheet has cells by chance: one in so many.
func anySheet(c *chance.Chance, width, one int) sheet {
	p := sheet{width, make([]bool, width*width)}
	for i := range p.lives {
		p.lives[i] = c.Below(one) == 0
	}
	return p
}

// lay makes the square of a sheet.
func (s store) lay(p sheet) int {
	s.t.Helper()
	return s.layPart(p, p.width, 0, 0)
}

func (s store) layPart(p sheet, width, left, above int) int {
	s.t.Helper()
	if width == 8 {
		var t tile.Tile
		for i := range 64 {
			if p.lives[(above+i/8)*p.width+left+i%8] {
				t |= 1 << i
			}
		}
		return must(s.t)(s.Leaf(t))
	}
	var k [4]int
	for i := range k {
		k[i] = s.layPart(p, width/2, left+i%2*width/2, above+i/2*width/2)
	}
	return must(s.t)(s.Node(k))
}

// sorted are cells by rows from above, and from the left, each once.
func sorted(l []api.Cell) []api.Cell {
	l = slices.Clone(l)
	slices.SortFunc(l, func(a, b api.Cell) int { return cmp.Or(cmp.Compare(a.Y, b.Y), cmp.Compare(a.X, b.X)) })
	return slices.Compact(l)
}

// shuffled are cells in another order.
func shuffled(c *chance.Chance, l []api.Cell) []api.Cell {
	l = slices.Clone(l)
	for i := range l {
		j := i + c.Below(len(l)-i)
		l[i], l[j] = l[j], l[i]
	}
	return l
}

// corners are the cells at a square's corners: left above, right above, left below, right below.
func corners(level int) []api.Cell {
	last := 1<<level - 1
	return []api.Cell{{}, {X: last}, {Y: last}, {X: last, Y: last}}
}

// anyPlace is a place in a square of a level, near what lies at its sides and between its parts.
func anyPlace(c *chance.Chance, level int) int {
	width := 1 << level
	return (c.Below(4) + 1<<c.Below(level)*c.Below(2) + 1<<c.Below(level)*c.Below(2) - c.Below(4) + width) % width
}

// someCells are so many at such places.
func someCells(c *chance.Chance, level, n int) []api.Cell {
	l := make([]api.Cell, n)
	for i := range l {
		l[i] = api.Cell{X: anyPlace(c, level), Y: anyPlace(c, level)}
	}
	return l
}

// notThere are numbers of no squares in a store of so many; cut to fewer bits some of them were.
func notThere(n int) []int {
	return []int{0, -1, n + 1, math.MaxInt, math.MinInt, -n, n + 2, 1<<32 + 1, 1 - 1<<32, math.MinInt + 1, 1<<16 + 1, 1 << 62}
}

func isError(err error, want api.Errno) bool {
	var number api.Errno
	return errors.As(err, &number) && number == want
}

// failsOf asks Of for an error, and for the zero value beside it.
func (s store) failsOf(what string, level int, l []api.Cell, want api.Errno) {
	s.t.Helper()
	before := slices.Clone(l)
	got, err := Of(s.Store, level, l)
	if got != 0 || !isError(err, want) {
		s.t.Fatalf("Of, %s: %d, %v, want %v", what, got, err, want)
	}
	if !slices.Equal(l, before) {
		s.t.Fatalf("Of, %s: what was handed in is changed", what)
	}
}

// failsAll asks each call for a square for an error, and for zero values beside it.
func (s store) failsAll(what string, id int, want api.Errno) {
	s.t.Helper()
	s.failsCells(what, id, want)
	low, high, any, err := Box(s.Store, id)
	if low != (api.Cell{}) || high != (api.Cell{}) || any || !isError(err, want) {
		s.t.Fatalf("Box, %s: %v, %v, %v, %v, want %v", what, low, high, any, err, want)
	}
	for _, low := range farCells() {
		for _, high := range farCells() {
			n, err := In(s.Store, id, low, high)
			if n != 0 || !isError(err, want) {
				s.t.Fatalf("In, %s, from %v to %v: %d, %v, want %v", what, low, high, n, err, want)
			}
		}
	}
}

func (s store) failsCells(what string, id int, want api.Errno) {
	s.t.Helper()
	l, err := Cells(s.Store, id)
	if len(l) != 0 || !isError(err, want) {
		s.t.Fatalf("Cells, %s: %v, %v, want %v", what, l, err, want)
	}
}

// farCells are such that are in a square, or beyond its sides, or as far away as numbers go.
func farCells() []api.Cell {
	l := []api.Cell{{}, {X: 1, Y: 1}, {X: 7, Y: 7}}
	for _, n := range []int{-1, 1 << 40, math.MinInt, math.MaxInt} {
		l = append(l, api.Cell{X: n}, api.Cell{Y: n}, api.Cell{X: n, Y: n})
	}
	return l
}

// hasCells asks for a square's cells, just these, in this order.
func (s store) hasCells(what string, id int, want []api.Cell) {
	s.t.Helper()
	got, err := Cells(s.Store, id)
	if err != nil || !slices.Equal(got, want) {
		s.t.Fatalf("Cells, %s: %v, %v, want %v", what, got, err, want)
	}
}

// hasBox asks for a square's corners.
func (s store) hasBox(what string, id int, low, high api.Cell, any bool) {
	s.t.Helper()
	gotLow, gotHigh, gotAny, err := Box(s.Store, id)
	if gotLow != low || gotHigh != high || gotAny != any || err != nil {
		s.t.Fatalf("Box, %s: %v, %v, %v, %v, want %v, %v, %v", what, gotLow, gotHigh, gotAny, err, low, high, any)
	}
}

// hasIn asks for how many live between two corners.
func (s store) hasIn(what string, id int, low, high api.Cell, want int) {
	s.t.Helper()
	got, err := In(s.Store, id, low, high)
	if got != want || err != nil {
		s.t.Fatalf("In, %s, from %v to %v: %d, %v, want %d", what, low, high, got, err, want)
	}
}
