package macro

import (
	"cmp"
	"errors"
	"fmt"
	"regexp"
	"slices"
	"strconv"
	"strings"
	"testing"

	"quilt/api"
	"quilt/chance"
	"quilt/quad"
	"quilt/rule"
	"quilt/tile"
)

// life is the rule that most of the tests take, and heading what a text by it begins with.
var life = rule.Rule{Born: 1 << 3, Live: 1<<2 | 1<<3}

const heading = "[M2]\n#R B3/S23\n"

func isError(err error, want api.Errno) bool {
	var number api.Errno
	return errors.As(err, &number) && number == want
}

// store is one with a tester, who asks for its squares.
type store struct {
	t    *testing.T
	room int
	*quad.Store
}

func storeOf(t *testing.T, room int) store {
	t.Helper()
	s, err := quad.New(room)
	if err != nil {
		t.Fatal(err)
	}
	return store{t, room, s}
}

// wide is a store with room for all squares that may be in one.
func wide(t *testing.T) store {
	t.Helper()
	return storeOf(t, 65536)
}

// must is the number that a call answers, where it has to answer one.
func must(t *testing.T) func(id int, err error) int {
	return func(id int, err error) int {
		t.Helper()
		if err != nil || id < 1 {
			t.Fatalf("a call that has to answer a number: %d, %v", id, err)
		}
		return id
	}
}

// leaf is the square of a tile.
func (s store) leaf(t tile.Tile) int {
	s.t.Helper()
	return must(s.t)(s.Leaf(t))
}

// four is the square of four.
func (s store) four(k ...int) int {
	s.t.Helper()
	return must(s.t)(s.Node([4]int(k)))
}

// told is what a store tells of a square.
type told struct {
	level int
	tile  tile.Tile
	kids  [4]int
}

// tells are all squares of a store.
func (s store) tells() []told {
	s.t.Helper()
	l := make([]told, s.Len())
	for i := range l {
		var err error
		if l[i].level, err = s.Level(i + 1); err != nil {
			s.t.Fatal(err)
		}
		l[i].tile, _ = s.Tile(i + 1)
		l[i].kids, _ = s.Kids(i + 1)
	}
	return l
}

// stays asks that a store is as it was told.
func (s store) stays(before []told) {
	s.t.Helper()
	if got := s.tells(); !slices.Equal(got, before) {
		s.t.Fatalf("%d squares, and there were %d, or others", len(got), len(before))
	}
}

// content is a square as a list of its cells, by rows from above and from the left, each once.
type content struct {
	level int
	cells []api.Cell
}

func contentOf(level int, l []api.Cell) content {
	l = slices.Clone(l)
	slices.SortFunc(l, func(a, b api.Cell) int { return cmp.Or(cmp.Compare(a.Y, b.Y), cmp.Compare(a.X, b.X)) })
	return content{level, slices.Compact(l)}
}

// drawn is the content of a picture: each sign but a point a cell that lives, each word a row.
func drawn(level int, rows string) content {
	var l []api.Cell
	for y, row := range strings.Fields(rows) {
		for x := range row {
			if row[x] != '.' {
				l = append(l, api.Cell{X: x, Y: y})
			}
		}
	}
	return contentOf(level, l)
}

// ofTile is the content of a tile.
func ofTile(t tile.Tile) content {
	var l []api.Cell
	for i := range 64 {
		if t>>i&1 == 1 {
			l = append(l, api.Cell{X: i % 8, Y: i / 8})
		}
	}
	return contentOf(3, l)
}

// ofFour is the content of four of one level.
func ofFour(four ...content) content {
	var l []api.Cell
	half := 1 << four[0].level
	for i, q := range four {
		for _, c := range q.cells {
			l = append(l, api.Cell{X: c.X + half*(i%2), Y: c.Y + half*(i/2)})
		}
	}
	return contentOf(four[0].level+1, l)
}

// four are the contents of which one above the lowest level is made.
func (q content) four() [4]content {
	var l [4]content
	half := 1 << (q.level - 1)
	for i := range l {
		l[i].level = q.level - 1
	}
	for _, c := range q.cells {
		i := c.Y/half*2 + c.X/half
		l[i].cells = append(l[i].cells, api.Cell{X: c.X % half, Y: c.Y % half})
	}
	return l
}

// tile is that of a content of the lowest level.
func (q content) tile() tile.Tile {
	var t tile.Tile
	for _, c := range q.cells {
		t |= 1 << (8*c.Y + c.X)
	}
	return t
}

// in is the square of a content, made in a store.
func (q content) in(s store) int {
	if len(q.cells) == 0 {
		return must(s.t)(s.Empty(q.level))
	}
	if q.level == 3 {
		return s.leaf(q.tile())
	}
	var k [4]int
	for i, kid := range q.four() {
		k[i] = kid.in(s)
	}
	return s.four(k[:]...)
}

// picture is the line of a content of the lowest level.
func (q content) picture() string {
	rows := slices.Repeat([]string{"........"}, 8)
	for _, c := range q.cells {
		rows[c.Y] = rows[c.Y][:c.X] + "*" + rows[c.Y][c.X+1:]
	}
	for y := range rows {
		rows[y] = strings.TrimRight(rows[y], ".")
	}
	return strings.TrimRight(strings.Join(rows, "$"), "$") + "$"
}

// text is what Write has to answer of a content: by what cells there are, another way than by the numbers of squares.
func (q content) text(law string) string {
	w := scribe{numbers: map[string]int{}}
	w.lay(q)
	return "[M2]\n#R " + law + "\n" + strings.Join(w.lines, "\n") + "\n"
}

// scribe writes contents line by line, and finds them again by their cells.
type scribe struct {
	lines   []string
	numbers map[string]int
}

func (w *scribe) lay(q content) {
	line := strconv.Itoa(q.level)
	if q.level == 3 {
		line = q.picture()
	} else {
		for _, kid := range q.four() {
			line += " " + strconv.Itoa(w.number(kid))
		}
	}
	w.lines = append(w.lines, line)
}

func (w *scribe) number(q content) int {
	if len(q.cells) == 0 {
		return 0
	}
	key := fmt.Sprint(q)
	if w.numbers[key] == 0 {
		w.lay(q)
		w.numbers[key] = len(w.lines)
	}
	return w.numbers[key]
}

// lawOf is a rule as layer 8 writes it.
func lawOf(t *testing.T, r rule.Rule) string {
	t.Helper()
	s, err := rule.Text(r)
	if err != nil {
		t.Fatal(err)
	}
	return s
}

// anyBelow is a number from 0 to n-1, also of such n as are above what one number of chance tells.
func anyBelow(c *chance.Chance, n int) int { return (c.Below(1<<31)<<31 + c.Below(1<<31)) % n }

// anyRule is one that may be.
func anyRule(c *chance.Chance) rule.Rule {
	return rule.Rule{Born: uint16(c.Below(256)) * 2, Live: uint16(c.Below(512))}
}

// anyBits is a tile of which each cell lives, or not.
func anyBits(c *chance.Chance) tile.Tile {
	return tile.Tile(c.Below(1<<31))<<33 ^ tile.Tile(c.Below(1<<31))<<16 ^ tile.Tile(c.Below(1<<31))
}

// anyTile is one with many cells, or with few.
func anyTile(c *chance.Chance) tile.Tile {
	t := anyBits(c)
	for range c.Below(6) {
		t &= anyBits(c)
	}
	return t
}

// anyFew is the content of a level with few cells, wherever they are.
func anyFew(c *chance.Chance, level int) content {
	var l []api.Cell
	width := 1 << (c.Below(level) + 1)
	for range c.Below(30) {
		l = append(l, api.Cell{X: anyBelow(c, width), Y: (1 << level) - 1 - anyBelow(c, width)})
	}
	return contentOf(level, l)
}

// anyWoven is a content of a low level in which the same squares come again and again.
func anyWoven(c *chance.Chance, level int) content {
	pool := []content{{level: 3}, ofTile(anyTile(c)), ofTile(1 << c.Below(64)), ofTile(anyTile(c))}
	for at := 4; at <= level; at++ {
		next := []content{{level: at}}
		for range 1 + c.Below(3) {
			kinds := 1 + c.Below(len(pool))
			var four [4]content
			for i := range four {
				four[i] = pool[c.Below(kinds)]
			}
			next = append(next, ofFour(four[:]...))
		}
		pool = next
	}
	return pool[len(pool)-1]
}

// plan is a store as a list of its squares, for Parse as the chapter tells it: by patterns, another way than the package's own.
type plan struct {
	room    int
	all     []told
	numbers map[told]int
}

// planOf is what a store has.
func planOf(s store) *plan {
	p := &plan{room: s.room, all: s.tells(), numbers: map[told]int{}}
	for i, q := range p.all {
		p.numbers[q] = i + 1
	}
	return p
}

// number is that of a square, a new one where it is not there; 0 if there is no room.
func (p *plan) number(q told) int {
	if id := p.numbers[q]; id != 0 {
		return id
	}
	if len(p.all) == p.room {
		return 0
	}
	p.all = append(p.all, q)
	p.numbers[q] = len(p.all)
	return len(p.all)
}

// empty is the number of the square of a level without cells, made from below; 0 if there is no room.
func (p *plan) empty(level int) int {
	if level == 3 {
		return p.number(told{level: 3})
	}
	id := p.empty(level - 1)
	if id == 0 {
		return 0
	}
	return p.number(told{level: level, kids: [4]int{id, id, id, id}})
}

var (
	lawForm  = regexp.MustCompile(`^#R ([^\n]*)\n$`)
	tileForm = regexp.MustCompile(`^(([.*]{0,7}\*)?\$){0,7}[.*]{0,7}\*\$\n$`)
	fourForm = regexp.MustCompile(`^([4-9]|[123][0-9]|40) (0|[1-9][0-9]*) (0|[1-9][0-9]*) (0|[1-9][0-9]*) (0|[1-9][0-9]*)\n$`)
)

// parsed is what Parse has to answer; the error is 0 where there is none. The plan then has what the store has to have.
func (p *plan) parsed(text string) (rule.Rule, int, int, api.Errno) {
	if len(text) > 65536 {
		return rule.Rule{}, 0, 0, api.ErrLong
	}
	var r rule.Rule
	var ids []int
	at := 0
	for i, line := range strings.SplitAfter(text, "\n") {
		if line == "" && len(ids) > 0 {
			break
		}
		var number api.Errno
		switch i {
		case 0:
			if line != "[M2]\n" {
				number = api.ErrForm
			}
		case 1:
			r, number = lawIn(line)
		default:
			var id int
			id, number = p.square(line, ids, at+len(line) == len(text))
			ids = append(ids, id)
		}
		if number != 0 {
			return rule.Rule{}, 0, at, number
		}
		at += len(line)
	}
	return r, ids[len(ids)-1], 0, 0
}

func lawIn(line string) (rule.Rule, api.Errno) {
	m := lawForm.FindStringSubmatch(line)
	if m == nil {
		return rule.Rule{}, api.ErrForm
	}
	r, err := rule.Parse(m[1])
	if err != nil {
		return rule.Rule{}, api.ErrRule
	}
	return r, 0
}

// square is that of a line behind others, whose squares are told.
func (p *plan) square(line string, ids []int, last bool) (int, api.Errno) {
	if tileForm.MatchString(line) && !last {
		q := told{level: 3}
		for y, row := range strings.Split(line, "$") {
			for x := range row {
				if row[x] == '*' {
					q.tile |= 1 << (8*y + x)
				}
			}
		}
		return found(p.number(q))
	}
	m := fourForm.FindStringSubmatch(line)
	if m == nil {
		return 0, api.ErrForm
	}
	level, _ := strconv.Atoi(m[1])
	kids, ok := p.kids(level-1, m[2:], ids)
	if !ok {
		return 0, api.ErrForm
	}
	for i := range kids {
		if kids[i] == 0 {
			kids[i] = p.empty(level - 1)
		}
		if kids[i] == 0 {
			return 0, api.ErrLimit
		}
	}
	return found(p.number(told{level: level, kids: kids}))
}

// found is what a call answers that finds a number, or 0.
func found(id int) (int, api.Errno) {
	if id == 0 {
		return 0, api.ErrLimit
	}
	return id, 0
}

// kids are the four of a level that numbers of lines tell, 0 where they tell none, and whether they may be.
func (p *plan) kids(level int, numbers []string, ids []int) (k [4]int, ok bool) {
	for i, s := range numbers {
		n, err := strconv.Atoi(s)
		if err != nil || n > len(ids) {
			return k, false
		}
		if n == 0 {
			continue
		}
		k[i] = ids[n-1]
		if p.all[k[i]-1].level != level {
			return k, false
		}
	}
	return k, true
}

// reads holds Parse in a store against the chapter's words, and the store's squares too; and tells what it answers.
func (s store) reads(text string) (rule.Rule, int, int, api.Errno) {
	s.t.Helper()
	p := planOf(s)
	r, id, at, number := p.parsed(text)
	gotR, gotID, gotAt, err := Parse(text, s.Store)
	if gotR != r || gotID != id || gotAt != at || (err == nil) != (number == 0) || number != 0 && !isError(err, number) {
		s.t.Fatalf("Parse(%.300q): %x, %d, %d, %v, want %x, %d, %d, %v", text, gotR, gotID, gotAt, err, r, id, at, number)
	}
	s.stays(p.all)
	return r, id, at, number
}

// parses asks for a rule and for a content.
func (s store) parses(text string, r rule.Rule, q content) {
	s.t.Helper()
	got, id, at, number := s.reads(text)
	if got != r || at != 0 || number != 0 {
		s.t.Fatalf("Parse(%.300q): %x, %d, %d, %v, want %x", text, got, id, at, number, r)
	}
	// A store has each square once.
	if made := q.in(s); made != id {
		s.t.Fatalf("Parse(%.300q): the square %d, and %d has these cells", text, id, made)
	}
}

// parsesNot asks for an error and its place, of a text in a store without squares.
func parsesNot(t *testing.T, text string, at int, want api.Errno) {
	t.Helper()
	if _, _, got, number := wide(t).reads(text); got != at || number != want {
		t.Fatalf("Parse(%.300q): %v at %d, want %v at %d", text, number, got, want, at)
	}
}

// writes asks for a text, and that the store stays as it is.
func (s store) writes(r rule.Rule, id int, want string) {
	s.t.Helper()
	before := s.tells()
	got, err := Write(r, s.Store, id)
	if err != nil || got != want {
		s.t.Fatalf("Write(%x, %d):\n%.3000s%v, want\n%.3000s", r, id, got, err, want)
	}
	s.stays(before)
}

// writesNot asks for an error, and for nothing beside it.
func (s store) writesNot(r rule.Rule, id int, want api.Errno) {
	s.t.Helper()
	before := s.tells()
	got, err := Write(r, s.Store, id)
	if got != "" || !isError(err, want) {
		s.t.Fatalf("Write(%x, %d): %.300q, %v, want %v", r, id, got, err, want)
	}
	s.stays(before)
}
