package rle

import (
	"math"
	"slices"
	"strings"
	"testing"

	"quilt/api"
	"quilt/chance"
	"quilt/rule"
)

// wall are so many cells, 64 in a row.
func wall(n int) []api.Cell {
	l := make([]api.Cell, n)
	for i := range l {
		l[i] = api.Cell{X: i % 64, Y: i / 64}
	}
	return l
}

// spots are the cells of a picture: each sign but a point one that lives, each word a row.
func spots(rows string) []api.Cell {
	var l []api.Cell
	for y, row := range strings.Fields(rows) {
		for x := range row {
			if row[x] != '.' {
				l = append(l, api.Cell{X: x, Y: y})
			}
		}
	}
	return l
}

// wrongRules are rules that may not be.
func wrongRules() []rule.Rule {
	return []rule.Rule{{Born: 1}, {Born: 1 << 9}, {Live: 1 << 9}, {Born: 9, Live: 12}, {Born: 8, Live: 12 | 1<<15}, {Born: 1 << 15, Live: 1}, {Born: 0xffff, Live: 0xffff}}
}

// RE1: cells whose texts the chapter's words tell at sight.
func TestWriteKnown(t *testing.T) {
	for _, k := range []struct{ rows, want string }{
		{".#. ..# ###", "x = 3, y = 3, rule = B3/S23\nbo$2bo$3o!\n"},
		{"#", "x = 1, y = 1, rule = B3/S23\no!\n"},
		{"##", "x = 2, y = 1, rule = B3/S23\n2o!\n"},
		{"# #", "x = 1, y = 2, rule = B3/S23\no$o!\n"},
		{"#.#", "x = 3, y = 1, rule = B3/S23\nobo!\n"},
		{"## ##", "x = 2, y = 2, rule = B3/S23\n2o$2o!\n"},
		{".# #.", "x = 2, y = 2, rule = B3/S23\nbo$o!\n"},
		{"#. .#", "x = 2, y = 2, rule = B3/S23\no$bo!\n"},
		{"#.... ....# ##...", "x = 5, y = 3, rule = B3/S23\no$4bo$2o!\n"},
		{"#.#.. ....#", "x = 5, y = 2, rule = B3/S23\nobo$4bo!\n"},
		{"# . #", "x = 1, y = 3, rule = B3/S23\no2$o!\n"},
		{"#. .. .. .#", "x = 2, y = 4, rule = B3/S23\no3$bo!\n"},
		{"... .#. ... ..# ... ...", "x = 2, y = 3, rule = B3/S23\no2$bo!\n"},
		{".... .... ..## .#..", "x = 3, y = 2, rule = B3/S23\nb2o$o!\n"},
		{"# # . # . . #", "x = 1, y = 7, rule = B3/S23\no$o2$o3$o!\n"},
		{"#########..#", "x = 12, y = 1, rule = B3/S23\n9o2bo!\n"},
		{"##########.........#", "x = 20, y = 1, rule = B3/S23\n10o9bo!\n"},
		{"#..........########### #", "x = 22, y = 2, rule = B3/S23\no10b11o$o!\n"},
	} {
		writes(t, life, spots(k.rows), k.want)
	}
}

// RE1: of no cells.
func TestWriteNone(t *testing.T) {
	writes(t, life, nil, headOfNone+"!\n")
	writes(t, rule.Rule{}, []api.Cell{}, "x = 0, y = 0, rule = B/S\n!\n")
	writes(t, rule.Rule{Born: 0x1fe, Live: 0x1ff}, nil, "x = 0, y = 0, rule = B12345678/S012345678\n!\n")
}

// RE1: one cell, wherever it may be, is told the same.
func TestWriteOne(t *testing.T) {
	places := []int{-far, -far + 1, -far / 2, -1, 0, 1, 77, far / 2, far - 1, far}
	for _, x := range places {
		for _, y := range places {
			writes(t, life, []api.Cell{{X: x, Y: y}}, "x = 1, y = 1, rule = B3/S23\no!\n")
			writes(t, life, []api.Cell{{X: x, Y: y}, {X: x, Y: y}}, "x = 1, y = 1, rule = B3/S23\no!\n")
		}
	}
}

// RE1: each rule that may be stands in the head as layer 8 writes it; one that may not be is ErrRule, whatever the cells are.
func TestWriteRules(t *testing.T) {
	glider := spots(".#. ..# ###")
	for born := range uint16(256) {
		for live := range uint16(512) {
			r := rule.Rule{Born: born * 2, Live: live}
			writes(t, r, glider, "x = 3, y = 3, rule = "+named(t, r)+"\nbo$2bo$3o!\n")
			writesNot(t, rule.Rule{Born: r.Born | 1, Live: live}, glider, api.ErrRule)
		}
	}
	for _, r := range wrongRules() {
		for _, l := range [][]api.Cell{nil, glider, wall(4096)} {
			writesNot(t, r, l, api.ErrRule)
		}
	}
}

// RE1: runs of each length.
func TestWriteLengths(t *testing.T) {
	for _, n := range []int{1, 2, 3, 8, 9, 10, 11, 12, 19, 20, 99, 100, 101, 999, 1000, 1001, 4000} {
		var p shape
		p.live(n)
		writes(t, life, p.cells, p.text("B3/S23"))
	}
	for _, n := range []int{1, 2, 3, 8, 9, 10, 11, 12, 19, 20, 99, 100, 101, 999, 1000, 1e9 - 1, 1e9, 1<<31 - 1, 1 << 31, 1 << 32, 1<<32 + 1, far - 3, far - 2} {
		var beside, below, first shape
		beside.live(1)
		beside.free(n)
		beside.live(1)
		writes(t, life, beside.cells, beside.text("B3/S23"))
		below.live(1)
		below.down(n)
		below.live(1)
		writes(t, life, below.cells, below.text("B3/S23"))
		first.free(n)
		first.live(2)
		first.down(n)
		first.live(1)
		writes(t, life, first.cells, first.text("B3/S23"))
	}
}

// RE1: all cells of three by four, each by a picture.
func TestWriteAllSmall(t *testing.T) {
	for bits := range 1 << 12 {
		var l []api.Cell
		for i := range 12 {
			if bits>>i&1 == 1 {
				l = append(l, api.Cell{X: i % 3, Y: i / 3})
			}
		}
		writes(t, life, l, picture("B3/S23", l))
	}
}

// RE1: many cells, thick and thin, wherever they lie, in any order and some of them twice, by a picture.
func TestWritePictures(t *testing.T) {
	c := chance.Chance(1)
	for range 1500 {
		width, height, one := 1+c.Below(120), 1+c.Below(30), 1+c.Below(20)
		var l []api.Cell
		for i := range width * height {
			if len(l) < 4096 && c.Below(one) == 0 {
				l = append(l, api.Cell{X: i % width, Y: i / width})
			}
		}
		r := anyRule(&c)
		want := picture(named(t, r), l)
		writes(t, r, l, want)
		x, y := anyBelow(&c, 2*far-width)-far, anyBelow(&c, 2*far-height)-far
		writes(t, r, shuffled(&c, moved(l, x, y)), want)
	}
}

// anyShape is one of so many runs at most, near and far.
func anyShape(c *chance.Chance, runs int) shape {
	var p shape
	p.live(1 + c.Below(5))
	for range c.Below(runs + 1) {
		if p.at.Y < far-1 && c.Below(3) == 0 {
			p.down(anyLength(c, far-1-p.at.Y))
			if c.Below(2) == 0 {
				p.free(anyLength(c, far-1))
			}
		} else if p.at.X < far-2 {
			p.free(anyLength(c, far-2-p.at.X))
		} else {
			continue
		}
		p.live(1 + c.Below(1+min(c.Below(20), far-p.at.X-1, 4095-len(p.cells))))
	}
	return p
}

// anyLength is a number of 1 or more, and of no more than most.
func anyLength(c *chance.Chance, most int) int {
	return 1 + anyBelow(c, min(most, 1<<c.Below(39)))
}

// RE1: runs as far as they may be, moved to any place where they may lie.
func TestWriteShapes(t *testing.T) {
	c := chance.Chance(2)
	for range 2000 {
		p, r := anyShape(&c, 80), anyRule(&c)
		want := p.text(named(t, r))
		writes(t, r, p.cells, want)
		for _, x := range []int{-far, far - p.size.X + 1} {
			for _, y := range []int{-far, far - p.size.Y + 1} {
				writes(t, r, shuffled(&c, moved(p.cells, x, y)), want)
			}
		}
	}
}

// RE1: Sorted's errors: just as many cells as there may be, and one more, be they different or not; one beyond, alone and among others.
func TestWriteCells(t *testing.T) {
	writes(t, life, wall(4096), picture("B3/S23", wall(4096)))
	writes(t, life, slices.Repeat(wall(1), 4096), "x = 1, y = 1, rule = B3/S23\no!\n")
	for _, n := range []int{4097, 4098, 5000, 8192, 1 << 16} {
		writesNot(t, life, wall(n), api.ErrLong)
		writesNot(t, life, slices.Repeat(wall(1), n), api.ErrLong)
	}
	for _, n := range []int{far + 1, -far - 1, 1 << 39, -1 << 39, 1 << 62, math.MaxInt, math.MinInt, math.MinInt + 1} {
		for _, c := range []api.Cell{{X: n}, {Y: n}, {X: n, Y: n}, {X: far, Y: n}, {X: n, Y: -far}} {
			writesNot(t, life, []api.Cell{c}, api.ErrRange)
			writesNot(t, life, append(wall(100), c), api.ErrRange)
			writesNot(t, life, append([]api.Cell{c, c}, wall(100)...), api.ErrRange)
		}
	}
}

// RE1: just as wide, and as high, as cells may be, at each side; and one more.
func TestWriteWide(t *testing.T) {
	for _, begin := range []int{-far, -far + 1, -far / 2, -1, 0, 1} {
		for _, k := range []struct {
			width int
			wide  string
			high  string
		}{
			{far - 1, "x = 274877906943, y = 1, rule = B3/S23\no274877906941bo!\n", "x = 1, y = 274877906943, rule = B3/S23\no274877906942$o!\n"},
			{far, "x = 274877906944, y = 1, rule = B3/S23\no274877906942bo!\n", "x = 1, y = 274877906944, rule = B3/S23\no274877906943$o!\n"},
		} {
			end := begin + k.width - 1
			writes(t, life, []api.Cell{{X: begin, Y: 7}, {X: end, Y: 7}}, k.wide)
			writes(t, life, []api.Cell{{X: -7, Y: end}, {X: -7, Y: begin}}, k.high)
		}
		for end := begin + far; end <= far; end += 1 + (far-end)/2 {
			for _, other := range []int{begin, 0, end} {
				writesNot(t, life, []api.Cell{{X: begin, Y: other}, {X: end}}, api.ErrRange)
				writesNot(t, life, []api.Cell{{X: end, Y: other}, {X: other, Y: 1}, {X: begin}}, api.ErrRange)
				writesNot(t, life, []api.Cell{{X: other, Y: begin}, {X: 0, Y: end}}, api.ErrRange)
			}
		}
	}
	writes(t, life, []api.Cell{{X: far - 6, Y: far - 10}, {X: far - 6, Y: -9}, {X: -5, Y: far - 10}, {X: -5, Y: -9}},
		"x = 274877906944, y = 274877906944, rule = B3/S23\no274877906942bo274877906943$o274877906942bo!\n")
}

// RE1: of two faults at once the one that comes first is told.
func TestWriteTwoFaults(t *testing.T) {
	bad := wrongRules()[0]
	beyond := append(wall(3), api.Cell{X: far + 1})
	longBeyond := append(wall(4096), api.Cell{Y: -far - 1})
	wide := []api.Cell{{X: -1}, {X: far - 1}, {X: far}}
	longWide := append(wall(4095), wide...)
	longText := ofLength(t, 65537).cells
	wideLongText := append(slices.Clone(longText), api.Cell{X: far})
	highLongText := append(slices.Clone(longText), api.Cell{Y: -far})
	for _, k := range []struct {
		r    rule.Rule
		l    []api.Cell
		want api.Errno
	}{
		{bad, wall(4097), api.ErrRule}, {bad, beyond, api.ErrRule}, {bad, wide, api.ErrRule}, {bad, longText, api.ErrRule}, {bad, longBeyond, api.ErrRule},
		{life, longBeyond, api.ErrLong}, {life, longWide, api.ErrLong}, {life, slices.Repeat(longText, 2), api.ErrLong},
		{life, append(slices.Clone(wide), beyond...), api.ErrRange}, {life, append(slices.Clone(longText), api.Cell{X: far + 1}), api.ErrRange},
		{life, wideLongText, api.ErrRange}, {life, highLongText, api.ErrRange},
		{life, longText, api.ErrLong},
	} {
		writesNot(t, k.r, k.l, k.want)
	}
}

// dotted lets n single cells live in a row, with single ones between: 2n-1 bytes.
func (p *shape) dotted(n int) {
	for i := range n {
		if i > 0 {
			p.free(1)
		}
		p.live(1)
	}
}

// RE1: lines of just 70 bytes, and such as would have 71, by runs of one byte, of several, and by the last sign.
func TestWriteLines(t *testing.T) {
	ob := func(n int) string { return strings.Repeat("ob", n) }
	for _, k := range []struct {
		what  string
		lay   func(p *shape)
		lines []string
	}{
		{"70 with the last sign", func(p *shape) { p.dotted(35) }, []string{ob(34) + "o!"}},
		{"71 by the last sign", func(p *shape) { p.live(2); p.free(1); p.dotted(34) }, []string{"2ob" + ob(33) + "o", "!"}},
		{"71 by the last cell", func(p *shape) { p.dotted(36) }, []string{ob(35), "o!"}},
		{"71 by a row's end", func(p *shape) { p.live(2); p.free(1); p.dotted(34); p.down(1); p.live(1) }, []string{"2ob" + ob(33) + "o", "$o!"}},
		{"70 with a row's end", func(p *shape) { p.dotted(35); p.down(1); p.live(1) }, []string{ob(34) + "o$", "o!"}},
		{"71 by a cell that doesn't live", func(p *shape) { p.live(2); p.free(1); p.dotted(35) }, []string{"2ob" + ob(33) + "o", "bo!"}},
		{"70 with two bytes", func(p *shape) { p.live(2); p.free(1); p.dotted(33); p.free(9); p.live(1) }, []string{"2ob" + ob(32) + "o9b", "o!"}},
		{"71 by two bytes", func(p *shape) { p.dotted(35); p.free(2); p.live(1) }, []string{ob(34) + "o", "2bo!"}},
		{"70 with three bytes", func(p *shape) { p.dotted(34); p.free(10); p.live(1) }, []string{ob(33) + "o10b", "o!"}},
		{"71 by three bytes", func(p *shape) { p.live(2); p.free(1); p.dotted(33); p.free(99); p.live(1) }, []string{"2ob" + ob(32) + "o", "99bo!"}},
		{"72 by three bytes", func(p *shape) { p.dotted(35); p.down(10); p.live(1) }, []string{ob(34) + "o", "10$o!"}},
		{"70 with thirteen bytes", func(p *shape) { p.dotted(29); p.free(1e11); p.live(1) }, []string{ob(28) + "o100000000000b", "o!"}},
		{"71 by thirteen bytes", func(p *shape) { p.live(2); p.free(1); p.dotted(28); p.down(1e11); p.live(1) }, []string{"2ob" + ob(27) + "o", "100000000000$o!"}},
		{"82 by thirteen bytes", func(p *shape) { p.dotted(35); p.down(1e11); p.live(1) }, []string{ob(34) + "o", "100000000000$o!"}},
		{"70 with two that live", func(p *shape) { p.dotted(34); p.free(1); p.live(2) }, []string{ob(34) + "2o", "!"}},
		{"71 by two that live", func(p *shape) { p.live(2); p.free(1); p.dotted(33); p.free(1); p.live(22) }, []string{"2ob" + ob(33), "22o!"}},
		{"two lines of 70", func(p *shape) { p.dotted(70) }, []string{ob(35), ob(34) + "o!"}},
		{"71 by the last sign, in the second line", func(p *shape) { p.dotted(69); p.free(1); p.live(2) }, []string{ob(35), ob(34) + "2o", "!"}},
	} {
		var p shape
		k.lay(&p)
		want := p.text("B3/S23")
		if _, lines, _ := strings.Cut(want, "\n"); lines != strings.Join(k.lines, "\n")+"\n" {
			t.Fatalf("%s: laid as %s", k.what, lines)
		}
		writes(t, life, p.cells, want)
		parses(t, want, life, p.cells)
	}
}

// RE1: however long the head is, it is a line, and nothing of it counts for the next one.
func TestWriteHeadAlone(t *testing.T) {
	var p shape
	p.dotted(35)
	p.down(far - 1)
	p.free(far - 2)
	p.live(2)
	writes(t, rule.Rule{Born: 0x1fe, Live: 0x1ff}, p.cells, "x = 274877906944, y = 274877906944, rule = B12345678/S012345678\n"+
		strings.Repeat("ob", 34)+"o\n274877906943$274877906942b2o!\n")
}

// row goes down to a row with one cell, told by a number of so many digits.
func (p *shape) row(digits int) {
	p.down(1e7)
	if digits == 1 {
		p.free(2)
	} else if digits > 1 {
		n := 1
		for range digits - 1 {
			n *= 10
		}
		p.free(n)
	}
	p.live(1)
}

// ofLength are cells whose text has just so many bytes, many of them.
func ofLength(t *testing.T, length int) shape {
	t.Helper()
	var p shape
	p.live(1)
	// Three such rows are a line.
	for range (length - 200) / 70 * 3 {
		p.row(12)
	}
	for len(p.text("B3/S23")) < length-45 {
		p.row(1)
	}
	for i := range 13 * 13 {
		q := p
		q.cells, q.runs = slices.Clone(p.cells), slices.Clone(p.runs)
		q.row(i % 13)
		q.row(i / 13)
		if len(q.text("B3/S23")) == length {
			return q
		}
	}
	t.Fatalf("no text of %d bytes", length)
	return shape{}
}

// RE1, RE2: a text of just as many bytes as there may be, and of more.
func TestWriteMostText(t *testing.T) {
	for length := 65530; length <= 65545; length++ {
		p := ofLength(t, length)
		if len(p.cells) > 4096 {
			t.Fatalf("%d cells", len(p.cells))
		}
		if length > 65536 {
			writesNot(t, life, p.cells, api.ErrLong)
			parsesNot(t, p.text("B3/S23"), 0, api.ErrLong)
			continue
		}
		writes(t, life, p.cells, p.text("B3/S23"))
		parses(t, p.text("B3/S23"), life, p.cells)
	}
	var p shape
	p.live(1)
	for range 4095 {
		p.row(12)
	}
	writesNot(t, life, p.cells, api.ErrLong)
}
