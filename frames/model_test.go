package frames

import (
	"errors"
	"math"
	"slices"
	"strconv"
	"testing"

	"quilt/api"
	"quilt/chance"
	"quilt/grow"
	"quilt/quad"
	"quilt/rule"
	"quilt/tile"
)

// sheet is the cells of a square, each of them told, row by row: another way than the store's, to hold it against.
type sheet struct {
	width int
	lives string // of each cell 1 or 0
}

// sheetOf has the cells that a closure tells.
func sheetOf(width int, lives func(x, y int) bool) sheet {
	b := make([]byte, width*width)
	for i := range b {
		b[i] = '0'
		if lives(i%width, i/width) {
			b[i] = '1'
		}
	}
	return sheet{width, string(b)}
}

// has tells of a cell; beyond the sheet none lives.
func (p sheet) has(x, y int) bool {
	return x >= 0 && x < p.width && y >= 0 && y < p.width && p.lives[y*p.width+x] == '1'
}

// cut is so wide a part of a sheet, that begins so far to the right, and so far down.
func (p sheet) cut(left, above, width int) sheet {
	return sheetOf(width, func(x, y int) bool { return p.has(left+x, above+y) })
}

// middle is what layer 12 calls so.
func (p sheet) middle() sheet { return p.cut(p.width/4, p.width/4, p.width/2) }

// on is the sheet so many generations on.
func (p sheet) on(r rule.Rule, n int) sheet {
	for range n {
		now := p
		p = sheetOf(p.width, func(x, y int) bool { return now.becomes(r, x, y) })
	}
	return p
}

// becomes is layer 8's word on one cell.
func (p sheet) becomes(r rule.Rule, x, y int) bool {
	n := 0
	for i := range 9 {
		if i != 4 && p.has(x+i%3-1, y+i/3-1) {
			n++
		}
	}
	if p.has(x, y) {
		return r.Live>>n&1 == 1
	}
	return r.Born>>n&1 == 1
}

// stand is a frame of the model.
type stand struct {
	square sheet
	j      int
	got    []sheet
}

// model goes over the chapter's steps one by one, on sheets.
type model struct {
	r     rule.Rule
	known map[string]sheet
	stack []stand
	told  func() // called behind what lets the lowest frame begin, and behind each step
}

func newModel(r rule.Rule, told func()) *model {
	return &model{r: r, known: map[string]sheet{}, told: told}
}

// goes is what comes of a frame of a sheet and a j, and is called where that begins.
func (m *model) goes(p sheet, j int) sheet {
	m.stack = append(m.stack, stand{square: p, j: j})
	m.told()
	if p.width > 16 {
		for i := range 13 {
			m.part(p, j, i)
		}
	}
	out := p.on(m.r, 1<<j).middle()
	m.known[name(p, j)] = out
	m.stack = m.stack[:len(m.stack)-1]
	m.take(out)
	return out
}

// part is the i-th part of a frame: where it lies is told by cells, not by what came of other parts.
func (m *model) part(p sheet, j, i int) {
	quarter, then, still := p.width/4, j, i < 9
	at, row, from := i, 3, 0
	if 1<<j == quarter {
		then, still = j-1, false
	}
	if i >= 9 {
		at, row, from = i-9, 2, quarter/2
		if then < j {
			p = p.on(m.r, 1<<then)
		}
	}
	q := p.cut(from+at%row*quarter, from+at/row*quarter, 2*quarter)
	if still {
		m.take(q.middle())
	} else if out, there := m.known[name(q, then)]; there {
		m.take(out)
	} else {
		m.goes(q, then)
	}
}

func (m *model) take(p sheet) {
	if n := len(m.stack); n > 0 {
		m.stack[n-1].got = append(m.stack[n-1].got, p)
	}
	m.told()
}

// name tells a sheet and a j.
func name(p sheet, j int) string { return strconv.Itoa(j) + " " + p.lives }

// plainSteps are how many steps there are where nothing comes twice.
func plainSteps(level, j int) int {
	if level == 4 {
		return 1
	}
	if j == level-2 {
		return 13*(1+plainSteps(level-1, j-1)) + 1
	}
	return 9 + 4*(1+plainSteps(level-1, j)) + 1
}

// store is one with a tester, who asks for its squares.
type store struct {
	t *testing.T
	*quad.Store
	seen map[int]sheet // squares stay
}

func storeOf(t *testing.T, room int) store {
	t.Helper()
	s, err := quad.New(room)
	if err != nil {
		t.Fatal(err)
	}
	return store{t, s, map[int]sheet{}}
}

// must is the number that a call answers, where it has to answer one.
func must(t *testing.T) func(id int, err error) int {
	return func(id int, err error) int {
		t.Helper()
		if err != nil || id < 1 {
			t.Fatalf("a call that has to answer a number: %d, %v", id, err)
		}
		return id
	}
}

// machine is one of this store.
func (s store) machine(r rule.Rule) *Machine {
	s.t.Helper()
	m, err := New(s.Store, r)
	if err != nil || m == nil {
		s.t.Fatalf("New: %v, %v", m, err)
	}
	return m
}

// grown is what layer 12 answers.
func (s store) grown(r rule.Rule, id, j int) int {
	s.t.Helper()
	g, err := grow.New(s.Store, r)
	if err != nil {
		s.t.Fatal(err)
	}
	return must(s.t)(g.Grow(id, j))
}

// lay makes the square of a sheet.
func (s store) lay(p sheet) int {
	s.t.Helper()
	if p.width == 8 {
		var t tile.Tile
		for i := range 64 {
			if p.has(i%8, i/8) {
				t |= 1 << i
			}
		}
		return must(s.t)(s.Leaf(t))
	}
	var k [4]int
	half := p.width / 2
	for i := range k {
		k[i] = s.lay(p.cut(i%2*half, i/2*half, half))
	}
	return must(s.t)(s.Node(k))
}

// put makes the square of a level with these cells.
func (s store) put(level int, l []api.Cell) int {
	s.t.Helper()
	id := must(s.t)(s.Empty(level))
	for _, c := range l {
		id = must(s.t)(s.Set(id, c.X, c.Y, true))
	}
	return id
}

// sheet is a square's.
func (s store) sheet(id int) sheet {
	s.t.Helper()
	if p, there := s.seen[id]; there {
		return p
	}
	level := must(s.t)(s.Level(id))
	lives := make([]byte, 1<<(2*level))
	s.write(lives, 1<<level, id, level, 0)
	s.seen[id] = sheet{1 << level, string(lives)}
	return s.seen[id]
}

// write tells the cells of a square from a place on, in rows of a width.
func (s store) write(lives []byte, width, id, level, at int) {
	if level == 3 {
		t, _ := s.Tile(id)
		for i := range 64 {
			lives[at+i/8*width+i%8] = '0' + byte(t>>i&1)
		}
		return
	}
	kids, _ := s.Kids(id)
	for i, kid := range kids {
		s.write(lives, width, kid, level-1, at+(i/2*width+i%2)<<(level-1))
	}
}

// told is all that a square is.
type told struct {
	level, count int
	tile         tile.Tile
	kids         [4]int
}

// tells are all squares of a store.
func (s store) tells() []told {
	s.t.Helper()
	var l []told
	for id := 1; id <= s.Len(); id++ {
		q := told{level: must(s.t)(s.Level(id))}
		q.count, _ = s.Count(id)
		q.tile, _ = s.Tile(id)
		q.kids, _ = s.Kids(id)
		l = append(l, q)
	}
	return l
}

// stays asks that a store has just the squares that it had.
func (s store) stays(what string, before []told) {
	s.t.Helper()
	if got := s.tells(); !slices.Equal(got, before) {
		s.t.Fatalf("%s: there are %d squares, and were %d, or not the same", what, len(got), len(before))
	}
}

// keeps asks that all squares that a store had are as they were. There may be more.
func (s store) keeps(what string, before []told) {
	s.t.Helper()
	if got := s.tells(); len(got) < len(before) || !slices.Equal(got[:len(before)], before) {
		s.t.Fatalf("%s: there are %d squares, and were %d, or not the same", what, len(got), len(before))
	}
}

// isError asks an error for its number.
func isError(err error, want api.Errno) bool {
	var n api.Errno
	return errors.As(err, &n) && n == want
}

// fails asks that a call answers an error, and nothing beside it.
func fails(t *testing.T, what string, got int, err error, want api.Errno) {
	t.Helper()
	if got != 0 || !isError(err, want) {
		t.Fatalf("%s: %d, %v, want %v", what, got, err, want)
	}
}

// wrong asks that a call answers an error.
func wrong(t *testing.T, what string, err error, want api.Errno) {
	t.Helper()
	if !isError(err, want) {
		t.Fatalf("%s: %v, want %v", what, err, want)
	}
}

// right asks that a call answers none.
func right(t *testing.T, what string, err error) {
	t.Helper()
	if err != nil {
		t.Fatalf("%s: %v", what, err)
	}
}

// runs asks that so many steps are done of so many that are asked for.
func runs(t *testing.T, m *Machine, n, want int) {
	t.Helper()
	if got, err := m.Run(n); got != want || err != nil {
		t.Fatalf("Run(%d): %d, %v, want %d", n, got, err, want)
	}
}

// idle asks that nothing is under way.
func idle(t *testing.T, what string, m *Machine) {
	t.Helper()
	if l := m.Frames(); len(l) != 0 {
		t.Fatalf("%s: under way are %+v", what, l)
	}
	for _, n := range []int{0, 1, -1, math.MaxInt} {
		got, err := m.Run(n)
		fails(t, what+": Run of nothing", got, err, api.ErrState)
	}
}

// none asks that nothing came of it yet.
func none(t *testing.T, what string, m *Machine) {
	t.Helper()
	if out, ok := m.Out(); out != 0 || ok {
		t.Fatalf("%s: Out: %d, %v, want none", what, out, ok)
	}
}

// ended asks what came of it.
func ended(t *testing.T, what string, m *Machine, want int) {
	t.Helper()
	if out, ok := m.Out(); out != want || !ok {
		t.Fatalf("%s: Out: %d, %v, want %d", what, out, ok, want)
	}
}

// sameFrames asks for these frames.
func sameFrames(t *testing.T, what string, got, want []Frame) {
	t.Helper()
	if !slices.EqualFunc(got, want, func(a, b Frame) bool {
		return a.ID == b.ID && a.J == b.J && a.Step == b.Step && slices.Equal(a.Got, b.Got)
	}) {
		t.Fatalf("%s: frames %+v, want %+v", what, got, want)
	}
}

// deep are frames of their own, not by the package's way.
func deep(l []Frame) []Frame {
	var d []Frame
	for _, f := range l {
		d = append(d, Frame{f.ID, f.J, f.Step, append([]int{}, f.Got...)})
	}
	return d
}

// notThere are numbers of no squares in a store of so many; cut to fewer bits some of them were.
func notThere(n int) []int {
	return []int{0, -1, n + 1, math.MaxInt, math.MinInt, -n, n + 2, 1<<16 + 1, 1<<32 + 1, -1<<32 + 1, math.MinInt + 1, 1 << 62}
}

// farAway are numbers that are no j of any square; cut to fewer bits some of them were.
var farAway = []int{-1, -2, 39, 40, 64, 65, 256, 1 << 16, 1 << 32, 1<<32 + 1, -1 << 32, 1 << 62, math.MaxInt, math.MaxInt - 1, math.MinInt, math.MinInt + 1}

var (
	life    = rule.Rule{Born: 8, Live: 12}
	filling = rule.Rule{Born: 0x1fe, Live: 0x1ff}
	staying = rule.Rule{Live: 0x1ff}
	parity  = rule.Rule{Born: 0xaa, Live: 0xaa}

	glider = []api.Cell{{X: 1, Y: 0}, {X: 2, Y: 1}, {X: 0, Y: 2}, {X: 1, Y: 2}, {X: 2, Y: 2}}
)

// someLaws are rules by which nothing stays, all stay, all are born, and some of each.
func someLaws(c *chance.Chance) []rule.Rule {
	other := rule.Rule{Born: uint16(c.Below(256)) * 2, Live: uint16(c.Below(512))}
	return []rule.Rule{life, {}, filling, staying, parity, {Born: 1<<3 | 1<<6, Live: 12}, {Born: 4}, other}
}

// someSheets are without cells, with few, half and many of them, full, and such as have parts that come twice.
func someSheets(c *chance.Chance, width int) []sheet {
	dense := func(part, of int) sheet {
		return sheetOf(width, func(int, int) bool { return c.Below(of) < part })
	}
	small := dense(1, 3)
	at := width/2 - 1
	return []sheet{
		dense(0, 1), dense(1, 9), dense(1, 2), dense(4, 5), dense(1, 1),
		sheetOf(width, func(x, y int) bool { return small.has(x%16, y%16) }),
		sheetOf(width, func(x, y int) bool { return slices.Contains(glider, api.Cell{X: x - at, Y: y - at}) }),
	}
}

// moved are cells, so far to the right and down.
func moved(l []api.Cell, by int) []api.Cell {
	m := slices.Clone(l)
	for i := range m {
		m[i] = api.Cell{X: m[i].X + by, Y: m[i].Y + by}
	}
	return m
}

// The models themselves, by what is known at sight.
func TestModels(t *testing.T) {
	p := sheetOf(16, func(x, y int) bool { return slices.Contains(glider, api.Cell{X: x - 5, Y: y - 5}) })
	if want := p.cut(-1, -1, 16); p.on(life, 4) != want {
		t.Errorf("a glider, 4 generations on: %s", p.on(life, 4).lives)
	}
	if m := p.middle(); m.width != 8 || !m.has(2, 1) || m.has(1, 1) || m != p.cut(4, 4, 8) {
		t.Errorf("a middle: %+v", m)
	}
	s := storeOf(t, 1000)
	if got := s.sheet(s.lay(p)); got != p {
		t.Errorf("a sheet that was laid: %s", got.lives)
	}
	if got, err := s.Get(s.lay(p), 6, 5); !got || err != nil {
		t.Errorf("a cell of a sheet that was laid: %v, %v", got, err)
	}
	for _, k := range []struct{ level, j, want int }{{4, 0, 1}, {4, 2, 1}, {5, 0, 18}, {5, 2, 18}, {5, 3, 27}, {6, 1, 86}, {6, 3, 122}, {6, 4, 365}} {
		if got := plainSteps(k.level, k.j); got != k.want {
			t.Errorf("steps of level %d by %d: %d, want %d", k.level, k.j, got, k.want)
		}
	}
	// Nothing but one tile over and over: each part but the first of its kind comes at once.
	for _, k := range []struct{ j, want int }{{0, 15}, {3, 15}} {
		n := -1
		newModel(life, func() { n++ }).goes(sheetOf(32, func(int, int) bool { return false }), k.j)
		if n != k.want {
			t.Errorf("steps of nothing by %d: %d, want %d", k.j, n, k.want)
		}
	}
}
