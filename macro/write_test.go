package macro

import (
	"math"
	"strconv"
	"strings"
	"testing"

	"quilt/api"
	"quilt/chance"
	"quilt/rule"
	"quilt/tile"
)

const allLive = tile.Tile(math.MaxUint64)

// wrongRules are rules that may not be.
func wrongRules() []rule.Rule {
	return []rule.Rule{{Born: 1}, {Born: 1 << 9}, {Live: 1 << 9}, {Born: 9, Live: 12}, {Born: 8, Live: 12 | 1<<15}, {Born: 1 << 15, Live: 1}, {Born: 0xffff, Live: 0xffff}}
}

// noSquares are numbers that a store of so many squares has none of; cut to fewer bits some of them were.
func noSquares(n int) []int {
	return []int{0, -1, -2, -n, math.MinInt, math.MinInt + 1, n + 1, n + 2, 1 << 32, 1<<32 + 1, 1<<16 + 1, 256 + 1, math.MaxInt}
}

// MA1: squares whose texts the chapter's words tell at sight.
func TestWriteKnown(t *testing.T) {
	for _, k := range []struct {
		level      int
		rows, want string
	}{
		{4, "## ##", "**$**$\n4 1 0 0 0\n"},
		{5, "## ##", "**$**$\n4 1 0 0 0\n5 2 0 0 0\n"},
		{4, ".#. ..# ###", ".*$..*$***$\n4 1 0 0 0\n"},
		{4, ". .# . ..#", "$.*$$..*$\n4 1 0 0 0\n"},
		{4, ".......##", ".......*$\n*$\n4 1 2 0 0\n"},
		{4, ". . . . . . . ........#. .......#.", "$$$$$$$*$\n.......*$\n4 0 1 2 0\n"},
		{4, ". . . . . . . .......## .......##", "$$$$$$$.......*$\n$$$$$$$*$\n.......*$\n*$\n4 1 2 3 4\n"},
		{4, "#.......#", "*$\n4 1 1 0 0\n"},
		{5, "#...............#.......#", "*$\n4 1 0 0 0\n4 1 1 0 0\n5 2 3 0 0\n"},
		{5, "#.......#.......#", "*$\n4 1 1 0 0\n4 1 0 0 0\n5 2 3 0 0\n"},
		{5, "........#.......##", "*$\n4 0 1 0 0\n**$\n4 3 0 0 0\n5 2 4 0 0\n"},
	} {
		s := wide(t)
		s.writes(life, drawn(k.level, k.rows).in(s), heading+k.want)
		if got := drawn(k.level, k.rows).text("B3/S23"); got != heading+k.want {
			t.Errorf("the model's text: %s, want %s", got, k.want)
		}
	}
}

// MA1: the whole has a line also if none lives in it, and then it is the only one.
func TestWriteEmpty(t *testing.T) {
	s := wide(t)
	for level := 4; level <= 40; level++ {
		s.writes(life, must(t)(s.Empty(level)), heading+strconv.Itoa(level)+" 0 0 0 0\n")
		s.writes(rule.Rule{}, must(t)(s.Empty(level)), "[M2]\n#R B/S\n"+strconv.Itoa(level)+" 0 0 0 0\n")
	}
}

// numbered is the line of a square of four in which one alone has a line.
func numbered(level, i, line int) string {
	k := [4]string{"0", "0", "0", "0"}
	k[i] = strconv.Itoa(line)
	return strconv.Itoa(level) + " " + strings.Join(k[:], " ") + "\n"
}

// MA1: squares of each level with cells in one quarter alone, each quarter; also where it is another quarter at each level.
func TestWriteQuarter(t *testing.T) {
	for first := range 4 {
		for turn := range 4 {
			s := wide(t)
			id, text := s.leaf(1), heading+"*$\n"
			for level := 4; level <= 40; level++ {
				i := (first + turn*level) % 4
				empty := must(t)(s.Empty(level - 1))
				k := [4]int{empty, empty, empty, empty}
				k[i] = id
				id, text = s.four(k[:]...), text+numbered(level, i, level-3)
				s.writes(life, id, text)
			}
		}
	}
}

// MA1: a square that is there in two quarters, in three, in all, has one line; at every level.
func TestWriteSeveralTimes(t *testing.T) {
	for bits := 1; bits < 16; bits++ {
		s := wide(t)
		id, text := s.leaf(allLive), heading+strings.Repeat("********$", 8)+"\n"
		for level := 4; level <= 40; level++ {
			empty := must(t)(s.Empty(level - 1))
			line, k := strconv.Itoa(level), [4]int{empty, empty, empty, empty}
			for i := range k {
				if bits>>i&1 == 0 {
					line += " 0"
					continue
				}
				line, k[i] = line+" "+strconv.Itoa(level-3), id
			}
			id, text = s.four(k[:]...), text+line+"\n"
			s.writes(life, id, text)
		}
	}
}

// MA1: what comes again, at several levels and in different squares, has one line, where it comes first.
func TestWriteOnce(t *testing.T) {
	s := wide(t)
	a, b := s.leaf(1), s.leaf(2)
	no, no4 := s.leaf(0), must(t)(s.Empty(4))
	aa, ba, ab := s.four(a, no, no, a), s.four(b, no, no, a), s.four(a, no, no, b)
	s.writes(life, ba, heading+".*$\n*$\n4 1 0 0 2\n")
	first := s.four(ba, aa, no4, ba)
	s.writes(life, first, heading+".*$\n*$\n4 1 0 0 2\n4 2 0 0 2\n5 3 4 0 3\n")
	second := s.four(no4, ab, aa, ba)
	s.writes(life, second, heading+"*$\n.*$\n4 1 0 0 2\n4 1 0 0 1\n4 2 0 0 1\n5 0 3 4 5\n")
	all := s.four(second, first, second, must(t)(s.Empty(5)))
	s.writes(life, all, heading+"*$\n.*$\n4 1 0 0 2\n4 1 0 0 1\n4 2 0 0 1\n5 0 3 4 5\n5 5 4 0 5\n6 6 7 6 0\n")
}

// MA1: the lines of the four stand ahead of a square's own, in their order, whatever the order in which the store has them.
func TestWriteOrder(t *testing.T) {
	c := chance.Chance(1)
	for range 300 {
		var tiles [16]content
		for i := range tiles {
			tiles[i] = ofTile(anyTile(&c) | 1)
		}
		s := wide(t)
		for range 20 { // in the store's own order they stand otherwise
			tiles[c.Below(16)].in(s)
		}
		var fours [4]content
		for i := range fours {
			fours[i] = ofFour(tiles[4*i : 4*i+4]...)
		}
		for range 2 {
			fours[c.Below(4)].in(s)
		}
		q := ofFour(fours[:]...)
		s.writes(life, q.in(s), q.text("B3/S23"))
	}
}

// MA1: tiles with one cell, at each place.
func TestWriteTilesOfOne(t *testing.T) {
	s := wide(t)
	empty := s.leaf(0)
	for y := range 8 {
		for x := range 8 {
			id := s.four(empty, s.leaf(1<<(8*y+x)), empty, empty)
			s.writes(life, id, heading+strings.Repeat("$", y)+strings.Repeat(".", x)+"*$\n4 0 1 0 0\n")
		}
	}
}

// MA1: tiles with rows that end in cells that don't live, with empty rows above, between and below, with all cells.
func TestWriteTiles(t *testing.T) {
	s := wide(t)
	for _, k := range []struct{ rows, want string }{
		{"######## ######## ######## ######## ######## ######## ######## ########", "********$********$********$********$********$********$********$********$"},
		{"#######. ........", "*******$"},
		{"........ #######.", "$*******$"},
		{"#.#.#.#. .#.#.#.#", "*.*.*.*$.*.*.*.*$"},
		{"#....... ........ ........ #.......", "*$$$*$"},
		{". . #", "$$*$"},
		{". .# . . ...# . . .", "$.*$$$...*$"},
		{"#......# ........ ........ ........ ........ ........ ........ #......#", "*......*$$$$$$$*......*$"},
		{"........ ######## ######## ######## ######## ######## ######## ########", "$********$********$********$********$********$********$********$"},
		{"######## ######## ######## ######## ######## ######## ######## ........", "********$********$********$********$********$********$********$"},
		{"######## ######## ######## ######## ######## ######## ######## #######.", "********$********$********$********$********$********$********$*******$"},
		{".####### .####### .####### .####### .####### .####### .####### .#######", ".*******$.*******$.*******$.*******$.*******$.*******$.*******$.*******$"},
	} {
		s.writes(life, s.four(s.leaf(0), s.leaf(0), drawn(3, k.rows).in(s), s.leaf(0)), heading+k.want+"\n4 0 0 1 0\n")
	}
}

// MA1: each row that a tile may have, as its first one, as its last one, and between; and any tiles.
func TestWriteAnyTile(t *testing.T) {
	c := chance.Chance(2)
	for row := range tile.Tile(256) {
		tiles := []tile.Tile{row, row << 56, row << 24, row<<8 | 1<<63, row | row<<8, 1 | row<<32}
		for range 10 {
			tiles = append(tiles, anyTile(&c))
		}
		for _, one := range tiles {
			if one == 0 {
				continue
			}
			s := storeOf(t, 10)
			s.writes(life, s.four(s.leaf(one), s.leaf(0), s.leaf(0), s.leaf(one)), heading+ofTile(one).picture()+"\n4 1 0 0 1\n")
		}
	}
}

// MA1: any squares, woven of few ones, of few cells, low and wide, by any rule.
func TestWriteAny(t *testing.T) {
	c := chance.Chance(3)
	for range 300 {
		s := wide(t)
		for range 3 {
			q, r := anyWoven(&c, 4+c.Below(4)), anyRule(&c)
			s.writes(r, q.in(s), q.text(lawOf(t, r)))
			q = anyFew(&c, 4+c.Below(37))
			s.writes(r, q.in(s), q.text(lawOf(t, r)))
		}
	}
}

// MA1: each rule that may be stands in the second line as layer 8 writes it; one that may not be is told ahead of all else.
func TestWriteRules(t *testing.T) {
	s := wide(t)
	id := drawn(4, "## ##").in(s)
	for born := range uint16(256) {
		for live := range uint16(512) {
			r := rule.Rule{Born: born * 2, Live: live}
			want := "[M2]\n#R " + lawOf(t, r) + "\n**$**$\n4 1 0 0 0\n"
			if got, err := Write(r, s.Store, id); err != nil || got != want {
				t.Fatalf("Write(%x): %q, %v, want %q", r, got, err, want)
			}
			r.Born |= 1
			if got, err := Write(r, s.Store, id); got != "" || !isError(err, api.ErrRule) {
				t.Fatalf("Write(%x): %q, %v", r, got, err)
			}
		}
	}
}

// MA1: a rule that may not be, alone and with each other fault.
func TestWriteWrongRule(t *testing.T) {
	s := wide(t)
	good, low, long := drawn(4, "## ##").in(s), s.leaf(7), tooLong(t).in(s)
	for _, r := range wrongRules() {
		for _, id := range append(noSquares(s.Len()), good, low, long) {
			s.writesNot(r, id, api.ErrRule)
			if got, err := Write(r, nil, id); got != "" || !isError(err, api.ErrRule) {
				t.Errorf("Write(%x, nil, %d): %q, %v", r, id, got, err)
			}
		}
	}
}

// MA1: in no store, whatever the number is.
func TestWriteNoStore(t *testing.T) {
	for _, id := range append(noSquares(5), 1, 2, 3, 4, 5) {
		for _, r := range []rule.Rule{life, {}} {
			if got, err := Write(r, nil, id); got != "" || !isError(err, api.ErrArg) {
				t.Errorf("Write in no store, %d: %q, %v", id, got, err)
			}
		}
	}
}

// MA1: numbers that are no square, in stores with and without squares.
func TestWriteNoSquare(t *testing.T) {
	for _, level := range []int{3, 4, 5, 40} {
		s := wide(t)
		for _, id := range append(noSquares(0), 1, 2) {
			s.writesNot(life, id, api.ErrNone)
		}
		must(t)(s.Empty(level))
		for _, id := range noSquares(s.Len()) {
			s.writesNot(life, id, api.ErrNone)
		}
	}
}

// MA1: a square of level 3, whatever its cells are; the four of which it is one can be written.
func TestWriteLevelThree(t *testing.T) {
	s := wide(t)
	for _, one := range []tile.Tile{0, 1, 7, 1 << 63, allLive} {
		id := s.leaf(one)
		s.writesNot(life, id, api.ErrArg)
		q := ofFour(ofTile(one), ofTile(one), ofTile(one), ofTile(one))
		s.writes(life, q.in(s), q.text("B3/S23"))
		s.writesNot(life, id, api.ErrArg)
	}
}
