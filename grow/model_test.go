package grow

import (
	"cmp"
	"errors"
	"maps"
	"math"
	"slices"
	"strings"
	"testing"

	"quilt/api"
	"quilt/chance"
	"quilt/quad"
	"quilt/rule"
	"quilt/tile"
)

// sheet is the cells of a square, each of them told, row by row: another way than the package's own, to hold it against.
type sheet struct {
	width int
	lives []bool
}

func newSheet(width int) sheet { return sheet{width, make([]bool, width*width)} }

// has tells of a cell; beyond the sheet none lives.
func (p sheet) has(x, y int) bool {
	return x >= 0 && x < p.width && y >= 0 && y < p.width && p.lives[y*p.width+x]
}

// about is how many of a cell's eight neighbours live.
func (p sheet) about(x, y int) int {
	n := 0
	for _, d := range around() {
		if p.has(x+d.X, y+d.Y) {
			n++
		}
	}
	return n
}

// next is the sheet one generation on.
func (p sheet) next(r rule.Rule) sheet {
	on := newSheet(p.width)
	for i, lives := range p.lives {
		on.lives[i] = becomes(r, lives, p.about(i%p.width, i/p.width))
	}
	return on
}

// cut is so wide a part of a sheet, that begins so far to the right and as far down; of what lies beyond none lives.
func (p sheet) cut(at, width int) sheet {
	c := newSheet(width)
	for i := range c.lives {
		c.lives[i] = p.has(at+i%width, at+i/width)
	}
	return c
}

// picture is a sheet to look at, of which too wide ones are cut.
func (p sheet) picture() string {
	var b strings.Builder
	for y := range min(p.width, 32) {
		for x := range min(p.width, 64) {
			if p.has(x, y) {
				b.WriteByte('o')
			} else {
				b.WriteByte('.')
			}
		}
		b.WriteByte('\n')
	}
	return b.String()
}

// around is where a cell's neighbours are.
func around() []api.Cell {
	return []api.Cell{{X: -1, Y: -1}, {X: 0, Y: -1}, {X: 1, Y: -1}, {X: -1, Y: 0}, {X: 1, Y: 0}, {X: -1, Y: 1}, {X: 0, Y: 1}, {X: 1, Y: 1}}
}

// becomes is layer 8's word on one cell.
func becomes(r rule.Rule, lives bool, n int) bool {
	if lives {
		return r.Live>>n&1 == 1
	}
	return r.Born>>n&1 == 1
}

// generation is a list of cells on a plane without an end, one generation on: a third way.
func generation(r rule.Rule, l []api.Cell) []api.Cell {
	lives, near := map[api.Cell]bool{}, map[api.Cell]int{}
	for _, c := range l {
		lives[c] = true
		near[c] += 0
		for _, d := range around() {
			near[api.Cell{X: c.X + d.X, Y: c.Y + d.Y}]++
		}
	}
	maps.DeleteFunc(near, func(c api.Cell, n int) bool { return !becomes(r, lives[c], n) })
	return sorted(slices.Collect(maps.Keys(near)))
}

// sorted are cells by rows from above, and from the left, each once.
func sorted(l []api.Cell) []api.Cell {
	l = slices.Clone(l)
	slices.SortFunc(l, func(a, b api.Cell) int { return cmp.Or(cmp.Compare(a.Y, b.Y), cmp.Compare(a.X, b.X)) })
	return slices.Compact(l)
}

// moved are cells, so far to the right and down.
func moved(l []api.Cell, x, y int) []api.Cell {
	m := slices.Clone(l)
	for i := range m {
		m[i] = api.Cell{X: m[i].X + x, Y: m[i].Y + y}
	}
	return m
}

// inside are those of a list that a square of a level has, which begins so far to the right and as far down, as cells of it.
func inside(l []api.Cell, level, at int) []api.Cell {
	return slices.DeleteFunc(moved(sorted(l), -at, -at), func(c api.Cell) bool {
		return min(c.X, c.Y) < 0 || max(c.X, c.Y) >= 1<<level
	})
}

// middleOf are the cells of the middle of a square of a level, as cells of the middle.
func middleOf(l []api.Cell, level int) []api.Cell { return inside(l, level-1, 1<<(level-2)) }

// store is one with a tester, who asks for its squares.
type store struct {
	t *testing.T
	*quad.Store
}

func storeOf(t *testing.T, room int) store {
	t.Helper()
	s, err := quad.New(room)
	if err != nil {
		t.Fatal(err)
	}
	return store{t, s}
}

// must is the number that a call answers, where it has to answer one.
func must(t *testing.T) func(id int, err error) int {
	return func(id int, err error) int {
		t.Helper()
		if err != nil || id < 1 {
			t.Fatalf("a call that has to answer a number: %d, %v", id, err)
		}
		return id
	}
}

// lay makes the square of a sheet.
func (s store) lay(p sheet) int {
	s.t.Helper()
	return s.layPart(p, p.width, 0, 0)
}

func (s store) layPart(p sheet, width, left, above int) int {
	s.t.Helper()
	if width == 8 {
		var t tile.Tile
		for i := range 64 {
			if p.has(left+i%8, above+i/8) {
				t |= 1 << i
			}
		}
		return must(s.t)(s.Leaf(t))
	}
	var k [4]int
	for i := range k {
		k[i] = s.layPart(p, width/2, left+i%2*width/2, above+i/2*width/2)
	}
	return must(s.t)(s.Node(k))
}

// put makes the square of a level with these cells.
func (s store) put(level int, l []api.Cell) int {
	s.t.Helper()
	id := must(s.t)(s.Empty(level))
	for _, c := range l {
		id = must(s.t)(s.Set(id, c.X, c.Y, true))
	}
	return id
}

// level is that of a square which has to be there.
func (s store) level(id int) int {
	s.t.Helper()
	return must(s.t)(s.Level(id))
}

// cells are those of a square, sorted.
func (s store) cells(id int) []api.Cell {
	s.t.Helper()
	return sorted(s.heap(id))
}

func (s store) heap(id int) []api.Cell {
	s.t.Helper()
	count, err := s.Count(id)
	if err != nil {
		s.t.Fatalf("the square %d: %v", id, err)
	}
	if count == 0 {
		return nil
	}
	var l []api.Cell
	level := s.level(id)
	if level == 3 {
		tile, _ := s.Tile(id)
		for i := range 64 {
			if tile>>i&1 == 1 {
				l = append(l, api.Cell{X: i % 8, Y: i / 8})
			}
		}
		return l
	}
	kids, _ := s.Kids(id)
	for i, kid := range kids {
		l = append(l, moved(s.heap(kid), i%2<<(level-1), i/2<<(level-1))...)
	}
	return l
}

// sheet is a square's.
func (s store) sheet(id int) sheet {
	s.t.Helper()
	p := newSheet(1 << s.level(id))
	for _, c := range s.heap(id) {
		p.lives[c.Y*p.width+c.X] = true
	}
	return p
}

// told is all that a square is.
type told struct {
	level, count int
	tile         tile.Tile
	kids         [4]int
}

// tells are all squares of a store.
func (s store) tells() []told {
	s.t.Helper()
	var l []told
	for id := 1; id <= s.Len(); id++ {
		q := told{level: s.level(id)}
		q.count, _ = s.Count(id)
		q.tile, _ = s.Tile(id)
		q.kids, _ = s.Kids(id)
		l = append(l, q)
	}
	return l
}

// stays asks that a store has just the squares that it had.
func (s store) stays(what string, before []told) {
	s.t.Helper()
	if got := s.tells(); !slices.Equal(got, before) {
		s.t.Fatalf("%s: there are %d squares, %+v, and were %d, %+v", what, len(got), some(got), len(before), some(before))
	}
}

// keeps asks that all squares that a store had are as they were. There may be more.
func (s store) keeps(what string, before []told) {
	s.t.Helper()
	if got := s.tells(); len(got) < len(before) || !slices.Equal(got[:len(before)], before) {
		s.t.Fatalf("%s: of %d squares there are %d, and %d of them as they were", what, len(before), len(got), same(got, before))
	}
}

// same is how many of two lists are the same, from the first on.
func same(a, b []told) int {
	n := 0
	for n < min(len(a), len(b)) && a[n] == b[n] {
		n++
	}
	return n
}

// is asks that a square is of a level, and has just these cells.
func (s store) is(what string, id int, err error, level int, want []api.Cell) {
	s.t.Helper()
	if err != nil {
		s.t.Fatalf("%s: %v", what, err)
	}
	if got := s.level(id); got != level {
		s.t.Fatalf("%s: a square of level %d, want %d", what, got, level)
	}
	if got := s.cells(id); !slices.Equal(got, sorted(want)) {
		s.t.Fatalf("%s: %d cells %v, want %d, %v", what, len(got), some(got), len(want), some(sorted(want)))
	}
}

// some are the first ones of a list, as many as one can read.
func some[V any](l []V) []V { return l[:min(len(l), 30)] }

// isSheet asks the same of a square that may have many cells.
func (s store) isSheet(what string, id int, err error, want sheet) {
	s.t.Helper()
	if err != nil {
		s.t.Fatalf("%s: %v", what, err)
	}
	if got := s.sheet(id); got.width != want.width || !slices.Equal(got.lives, want.lives) {
		s.t.Fatalf("%s: of %d by %d the cells\n%s\nwant of %d by %d\n%s", what, got.width, got.width, got.picture(), want.width, want.width, want.picture())
	}
}

// grower is one of a store by a rule that may be.
func (s store) grower(r rule.Rule) *Grower {
	s.t.Helper()
	g, err := New(s.Store, r)
	if err != nil || g == nil {
		s.t.Fatalf("New of the rule %x: %v, %v", r, g, err)
	}
	return g
}

func isError(err error, want api.Errno) bool {
	var number api.Errno
	return errors.As(err, &number) && number == want
}

// fails asks for an error, and for the zero value beside it.
func fails[V comparable](t *testing.T, what string, got V, err error, want api.Errno) {
	t.Helper()
	var zero V
	if got != zero || !isError(err, want) {
		t.Fatalf("%s: %v, %v, want %v", what, got, err, want)
	}
}

// notThere are numbers of no squares in a store of so many; cut to fewer bits some of them were.
func notThere(n int) []int {
	return []int{0, -1, n + 1, math.MaxInt, math.MinInt, -n, n + 2, 1<<16 + 1, 1<<32 + 1, -1<<32 + 1, math.MinInt + 1, 1 << 62}
}

// farAway are numbers that are no j of any square; cut to fewer bits some of them were.
var farAway = []int{-1, -2, 39, 40, 64, 65, 256, 1 << 16, 1 << 32, 1<<32 + 1, -1 << 32, 1 << 62, math.MaxInt, math.MaxInt - 1, math.MinInt, math.MinInt + 1}

var (
	life     = rule.Rule{Born: 8, Live: 12}
	nothing  = rule.Rule{}
	flooding = rule.Rule{Born: 0x1fe}
	filling  = rule.Rule{Born: 0x1fe, Live: 0x1ff}
	staying  = rule.Rule{Live: 0x1ff}
	spread   = rule.Rule{Born: 2}
	parity   = rule.Rule{Born: 0xaa, Live: 0xaa}
	someLaws = []rule.Rule{life, nothing, flooding, filling, staying, spread, parity, {Born: 1<<3 | 1<<6, Live: 12}, {Born: 4}, {Born: 1 << 8, Live: 1}, {Born: 0xf0, Live: 0x1f0}}

	block   = []api.Cell{{X: 0, Y: 0}, {X: 1, Y: 0}, {X: 0, Y: 1}, {X: 1, Y: 1}}
	row     = []api.Cell{{X: -1, Y: 0}, {X: 0, Y: 0}, {X: 1, Y: 0}}
	column  = []api.Cell{{X: 0, Y: -1}, {X: 0, Y: 0}, {X: 0, Y: 1}}
	glider  = []api.Cell{{X: 1, Y: 0}, {X: 2, Y: 1}, {X: 0, Y: 2}, {X: 1, Y: 2}, {X: 2, Y: 2}}
	manyGen = []api.Cell{{X: 1, Y: 0}, {X: 2, Y: 0}, {X: 0, Y: 1}, {X: 1, Y: 1}, {X: 1, Y: 2}} // goes on for long, by B3/S23
)

// anyRule is a rule that may be.
func anyRule(c *chance.Chance) rule.Rule {
	return rule.Rule{Born: uint16(c.Below(256)) * 2, Live: uint16(c.Below(512))}
}

// anySheet has few, half, or many cells.
func anySheet(c *chance.Chance, width int) sheet {
	p := newSheet(width)
	of, most := 2+c.Below(8), c.Below(2) == 0
	for i := range p.lives {
		p.lives[i] = (c.Below(of) == 0) != most
	}
	return p
}

// marked are the four corners of the middle of a square of a level, and the cells that are beside them, outside of the middle and within.
func marked(level int) []api.Cell {
	low, high := 1<<(level-2), 3<<(level-2)-1
	var l []api.Cell
	for _, x := range []int{low - 1, low, low + 1, high - 1, high, high + 1} {
		for _, y := range []int{low - 1, low, low + 1, high - 1, high, high + 1} {
			if (x*3+y*5+x*y)%4 < 3 {
				l = append(l, api.Cell{X: x, Y: y})
			}
		}
	}
	return l
}

// The models themselves, by what is known at sight.
func TestModels(t *testing.T) {
	for _, k := range []struct{ now, then []api.Cell }{{row, column}, {column, row}, {block, block}, {block[:3], block}, {block[:1], nil}, {nil, nil}} {
		if got := generation(life, moved(k.now, 7, -9)); !slices.Equal(got, sorted(moved(k.then, 7, -9))) {
			t.Errorf("a generation behind %v: %v", k.now, got)
		}
		p := newSheet(8)
		for _, c := range k.now {
			p.lives[(c.Y+4)*8+c.X+2] = true
		}
		p = p.next(life)
		for i, lives := range p.lives {
			if lives != slices.Contains(k.then, api.Cell{X: i%8 - 2, Y: i/8 - 4}) {
				t.Errorf("a generation behind %v: %v", k.now, p.lives)
			}
		}
	}
	l := glider
	for range 4 {
		l = generation(life, l)
	}
	if !slices.Equal(l, moved(glider, 1, 1)) {
		t.Errorf("a glider, 4 generations on: %v", l)
	}
	if got := middleOf([]api.Cell{{X: 3, Y: 4}, {X: 4, Y: 4}, {X: 11, Y: 5}, {X: 12, Y: 5}}, 4); !slices.Equal(got, []api.Cell{{}, {X: 7, Y: 1}}) {
		t.Errorf("a middle: %v", got)
	}
}
