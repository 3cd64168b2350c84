package quad

import (
	"cmp"
	"errors"
	"fmt"
	"math"
	"slices"
	"testing"

	"quilt/api"
	"quilt/chance"
	"quilt/tile"
)

const allLive = tile.Tile(math.MaxUint64)

// content is a square as a list of its cells, by rows from above and from the left: another way than the package's own, to hold it against.
type content struct {
	level int
	cells []api.Cell
}

// contentOf is the square of a level with these cells, in any order, each as often as it comes.
func contentOf(level int, l []api.Cell) content {
	l = slices.Clone(l)
	slices.SortFunc(l, func(a, b api.Cell) int { return cmp.Or(cmp.Compare(a.Y, b.Y), cmp.Compare(a.X, b.X)) })
	return content{level, slices.Compact(l)}
}

// leafOf is the content of a tile.
func leafOf(t tile.Tile) content {
	var l []api.Cell
	for i := range 64 {
		if t>>i&1 == 1 {
			l = append(l, api.Cell{X: i % 8, Y: i / 8})
		}
	}
	return contentOf(3, l)
}

// nodeOf is the content of four of one level.
func nodeOf(four [4]content) content {
	var l []api.Cell
	half := 1 << four[0].level
	for i, q := range four {
		for _, c := range q.cells {
			l = append(l, api.Cell{X: c.X + half*(i%2), Y: c.Y + half*(i/2)})
		}
	}
	return contentOf(four[0].level+1, l)
}

// cut is the content of a level whose left upper cell is there in another.
func (q content) cut(level, left, above int) content {
	var l []api.Cell
	for _, c := range q.cells {
		if c.X >= left && c.X < left+1<<level && c.Y >= above && c.Y < above+1<<level {
			l = append(l, api.Cell{X: c.X - left, Y: c.Y - above})
		}
	}
	return contentOf(level, l)
}

// four are the contents of which one above the lowest level is made.
func (q content) four() [4]content {
	half := 1 << (q.level - 1)
	return [4]content{q.cut(q.level-1, 0, 0), q.cut(q.level-1, half, 0), q.cut(q.level-1, 0, half), q.cut(q.level-1, half, half)}
}

// tile is that of a content of the lowest level.
func (q content) tile() tile.Tile {
	var t tile.Tile
	for _, c := range q.cells {
		t |= 1 << (8*c.Y + c.X)
	}
	return t
}

// with is the content with a cell so.
func (q content) with(at api.Cell, lives bool) content {
	l := slices.DeleteFunc(slices.Clone(q.cells), func(c api.Cell) bool { return c == at })
	if lives {
		l = append(l, at)
	}
	return contentOf(q.level, l)
}

func (q content) key() string { return fmt.Sprint(q.level, q.cells) }

// model is a store as contents, by their numbers from 1 on.
type model struct {
	room    int
	all     []content
	numbers map[string]int
}

func newModel(room int) *model { return &model{room: room, numbers: map[string]int{}} }

// number is that of a content, which is laid at the end, if it is not there; 0 if there is no room.
func (m *model) number(q content) int {
	if id := m.numbers[q.key()]; id != 0 {
		return id
	}
	if len(m.all) == m.room {
		return 0
	}
	m.all = append(m.all, q)
	m.numbers[q.key()] = len(m.all)
	return len(m.all)
}

func (m *model) has(id int) bool { return id >= 1 && id <= len(m.all) }

// upTo lays what has a cell's place in a content, one level behind the other, up to the content itself, and answers as the call does that makes them.
func (m *model) upTo(q content, at api.Cell) (int, api.Errno) {
	id := 0
	for level := 3; level <= q.level; level++ {
		if id = m.number(q.cut(level, at.X>>level<<level, at.Y>>level<<level)); id == 0 {
			return 0, api.ErrLimit
		}
	}
	return id, 0
}

func (m *model) leaf(t tile.Tile) (int, api.Errno) { return m.upTo(leafOf(t), api.Cell{}) }

func (m *model) node(k [4]int) (int, api.Errno) {
	var four [4]content
	for i, id := range k {
		if !m.has(id) {
			return 0, api.ErrNone
		}
		four[i] = m.all[id-1]
	}
	for _, q := range four {
		if q.level != four[0].level {
			return 0, api.ErrArg
		}
	}
	if four[0].level == 40 {
		return 0, api.ErrLimit
	}
	if id := m.number(nodeOf(four)); id != 0 {
		return id, 0
	}
	return 0, api.ErrLimit
}

func (m *model) empty(level int) (int, api.Errno) {
	if level < 3 || level > 40 {
		return 0, api.ErrArg
	}
	return m.upTo(content{level: level}, api.Cell{})
}

// place is what hinders to ask for a cell, if anything does.
func (m *model) place(id int, at api.Cell) api.Errno {
	if !m.has(id) {
		return api.ErrNone
	}
	if width := 1 << m.all[id-1].level; min(at.X, at.Y) < 0 || max(at.X, at.Y) >= width {
		return api.ErrRange
	}
	return 0
}

func (m *model) get(id int, at api.Cell) (bool, api.Errno) {
	if no := m.place(id, at); no != 0 {
		return false, no
	}
	return slices.Contains(m.all[id-1].cells, at), 0
}

func (m *model) set(id int, at api.Cell, lives bool) (int, api.Errno) {
	if no := m.place(id, at); no != 0 {
		return 0, no
	}
	return m.upTo(m.all[id-1].with(at, lives), at)
}

// told is all that a square tells of itself.
type told struct {
	level, count int
	tile         tile.Tile
	kids         [4]int
}

// tells are all squares of a store, each with what its level has and no other.
func tells(t *testing.T, s *Store) []told {
	t.Helper()
	var l []told
	for id := 1; id <= s.Len(); id++ {
		l = append(l, tellsOf(t, s, id))
	}
	return l
}

func tellsOf(t *testing.T, s *Store, id int) told {
	t.Helper()
	var q told
	var err, tileErr, kidsErr error
	q.level, err = s.Level(id)
	if err == nil {
		q.count, err = s.Count(id)
	}
	if err != nil {
		t.Fatalf("the square %d: %v", id, err)
	}
	q.tile, tileErr = s.Tile(id)
	q.kids, kidsErr = s.Kids(id)
	if q.level == 3 {
		fails(t, "Kids of a tile", q.kids, kidsErr, api.ErrArg)
	} else {
		fails(t, "Tile of four", q.tile, tileErr, api.ErrArg)
		err, kidsErr = kidsErr, tileErr
	}
	if err != nil || kidsErr == nil {
		t.Fatalf("the square %d: %+v, %v, %v", id, q, tileErr, kidsErr)
	}
	return q
}

// tellIs holds all squares of a store against the model's.
func tellIs(t *testing.T, s *Store, m *model) {
	t.Helper()
	if s.Len() != len(m.all) {
		t.Fatalf("Len: %d, want %d", s.Len(), len(m.all))
	}
	for i, q := range m.all {
		want := told{level: q.level, count: len(q.cells)}
		if q.level == 3 {
			want.tile = q.tile()
		} else {
			for j, kid := range q.four() {
				want.kids[j] = m.numbers[kid.key()]
			}
		}
		if got := tellsOf(t, s, i+1); got != want {
			t.Fatalf("the square %d: %+v, want %+v", i+1, got, want)
		}
	}
}

// cellsOf are the cells of a square, found by its tiles, and where they lie in it.
func cellsOf(t *testing.T, s *Store, id int) content {
	t.Helper()
	q := tellsOf(t, s, id)
	if q.level == 3 {
		return leafOf(q.tile)
	}
	if q.count == 0 {
		return content{level: q.level}
	}
	var four [4]content
	for i, kid := range q.kids {
		four[i] = cellsOf(t, s, kid)
	}
	return nodeOf(four)
}

func made(t *testing.T, room int) *Store {
	t.Helper()
	s, err := New(room)
	if err != nil || s == nil || s.Len() != 0 {
		t.Fatalf("New(%d): %v, %v", room, s, err)
	}
	return s
}

// must is the number that a call answers, where it has to answer one.
func must(t *testing.T) func(id int, err error) int {
	return func(id int, err error) int {
		t.Helper()
		if err != nil || id < 1 {
			t.Fatalf("a call that has to answer a number: %d, %v", id, err)
		}
		return id
	}
}

func isError(err error, want api.Errno) bool {
	var number api.Errno
	return errors.As(err, &number) && number == want
}

// fails asks for an error, and for the zero value beside it.
func fails[V comparable](t *testing.T, what string, got V, err error, want api.Errno) {
	t.Helper()
	var zero V
	if got != zero || !isError(err, want) {
		t.Fatalf("%s: %v, %v, want %v", what, got, err, want)
	}
}

// answers holds a call's answer against the model's.
func answers[V comparable](t *testing.T, what string, got V, err error, want V, no api.Errno) {
	t.Helper()
	if no != 0 {
		fails(t, what, got, err, no)
	} else if err != nil || got != want {
		t.Fatalf("%s: %v, %v, want %v", what, got, err, want)
	}
}

// stays asks that a store is as it was told.
func stays(t *testing.T, what string, s *Store, before []told) {
	t.Helper()
	if got := tells(t, s); !slices.Equal(got, before) {
		t.Fatalf("%s: the squares %+v, want %+v", what, got, before)
	}
}

// both is a store and its model, of which the same is asked.
type both struct {
	t *testing.T
	s *Store
	m *model
}

func bothOf(t *testing.T, room int) both { return both{t, made(t, room), newModel(room)} }

func (b both) leaf(t tile.Tile) {
	b.t.Helper()
	got, err := b.s.Leaf(t)
	want, no := b.m.leaf(t)
	answers(b.t, "Leaf", got, err, want, no)
}

func (b both) node(k [4]int) {
	b.t.Helper()
	before := k
	got, err := b.s.Node(k)
	want, no := b.m.node(k)
	answers(b.t, "Node", got, err, want, no)
	if k != before {
		b.t.Fatal("the four numbers are changed")
	}
}

func (b both) empty(level int) {
	b.t.Helper()
	got, err := b.s.Empty(level)
	want, no := b.m.empty(level)
	answers(b.t, "Empty", got, err, want, no)
}

func (b both) get(id, x, y int) {
	b.t.Helper()
	got, err := b.s.Get(id, x, y)
	want, no := b.m.get(id, api.Cell{X: x, Y: y})
	answers(b.t, "Get", got, err, want, no)
}

func (b both) set(id, x, y int, lives bool) {
	b.t.Helper()
	got, err := b.s.Set(id, x, y, lives)
	want, no := b.m.set(id, api.Cell{X: x, Y: y}, lives)
	answers(b.t, "Set", got, err, want, no)
}

// anyNumber is one of a square, or seldom of none.
func (b both) anyNumber(c *chance.Chance) int {
	if c.Below(20) == 0 {
		return notThere(b.s.Len())[c.Below(8)]
	}
	return 1 + c.Below(b.s.Len()+1)
}

// notThere are numbers of no squares in a store of so many; cut to fewer bits some of them were.
func notThere(n int) []int {
	return []int{0, -1, n + 1, math.MaxInt, math.MinInt, -n, 1<<32 + 1, -1<<32 + 1, math.MinInt + 1, n + 2, 1<<16 + 1, 1 << 62}
}

// anyPlace is a place in a square of a level, near what lies at its sides and between its parts, or seldom one beyond.
func anyPlace(c *chance.Chance, level int) int {
	width := 1 << level
	if c.Below(20) == 0 {
		return []int{-1, width, math.MinInt, math.MaxInt, width + 1, -width}[c.Below(6)]
	}
	return (c.Below(4) + 1<<c.Below(level)*c.Below(2) - c.Below(4) + width) % width
}

// anyTile is one with none, all, or a few cells.
func anyTile(c *chance.Chance) tile.Tile {
	return []tile.Tile{0, allLive, 1 << c.Below(64), 1<<c.Below(4) | 1<<c.Below(4), 3}[c.Below(5)]
}

// step asks one thing by chance.
func (b both) step(c *chance.Chance) {
	b.t.Helper()
	at := b.anyNumber(c)
	level := 3 + c.Below(3)
	if b.m.has(at) {
		level = b.m.all[at-1].level
	}
	switch c.Below(10) {
	case 0, 1:
		b.leaf(anyTile(c))
	case 2:
		b.empty(2 + c.Below(5)*c.Below(5) + c.Below(3))
	case 3, 4:
		b.node(b.anyFour(c))
	case 5:
		b.get(at, anyPlace(c, level), anyPlace(c, level))
	default:
		b.set(at, anyPlace(c, level), anyPlace(c, level), c.Below(3) > 0)
	}
}

// anyFour are four numbers, often of squares of one level without too many cells.
func (b both) anyFour(c *chance.Chance) [4]int {
	k := [4]int{b.anyNumber(c), b.anyNumber(c), b.anyNumber(c), b.anyNumber(c)}
	if c.Below(10) == 0 || b.s.Len() == 0 {
		return k
	}
	level := b.m.all[c.Below(b.s.Len())].level
	var l []int
	for i, q := range b.m.all {
		if q.level == level && len(q.cells) < 100 {
			l = append(l, i+1)
		}
	}
	for i := range k {
		if len(l) > 0 {
			k[i] = l[c.Below(len(l))]
		}
	}
	return k
}

// QD1 to QD4: whatever is asked, in stores with much and with little room, is as the model has it: each answer, each error, and in the end each square.
func TestModel(t *testing.T) {
	c := chance.Chance(1)
	for i := range 300 {
		b := bothOf(t, []int{1, 2, 5, 12, 40, 100, 200, 65536}[i%8])
		for range 20 + c.Below(150) {
			b.step(&c)
		}
		tellIs(t, b.s, b.m)
	}
}

// The model itself, by what is known at sight.
func TestContent(t *testing.T) {
	q := leafOf(1|1<<7|1<<56).with(api.Cell{X: 7, Y: 7}, true).with(api.Cell{}, false)
	if got := q.tile(); got != 1<<7|1<<56|1<<63 {
		t.Errorf("a tile: %x", got)
	}
	wide := nodeOf([4]content{q, leafOf(0), leafOf(2), leafOf(1)})
	if got := wide.key(); got != "4 [{7 0} {0 7} {7 7} {1 8} {8 8}]" {
		t.Errorf("four: %s", got)
	}
	for i, part := range wide.four() {
		if want := []content{q, leafOf(0), leafOf(2), leafOf(1)}[i]; part.key() != want.key() {
			t.Errorf("the part %d: %s, want %s", i, part.key(), want.key())
		}
	}
}
