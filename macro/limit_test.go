package macro

import (
	"sort"
	"strings"
	"testing"

	"quilt/api"
	"quilt/chance"
	"quilt/rule"
	"quilt/tile"
)

// lawWith is the text of a rule with so many numbers, 17 at most.
func lawWith(n int) string {
	born := min(n, 8)
	return "B" + "12345678"[:born] + "/S" + "012345678"[:n-born]
}

// sown is a content of level 8 with so many tiles of many cells, 960 at most, by rows from above; and with so many cells more in what is right below, 246 at most, with each of which some line is longer.
func sown(tiles, more int) content {
	c := chance.Chance(5)
	var l []api.Cell
	lay := func(x, y int, t tile.Tile) {
		for _, at := range ofTile(t).cells {
			l = append(l, api.Cell{X: x + at.X, Y: y + at.Y})
		}
	}
	for i := range tiles {
		lay(i%32*8, i/32*8, anyBits(&c)|anyBits(&c)|1<<63)
	}
	for i := range 4 {
		n := min(more, 63-i) // no two of these are full alike
		lay(240+i%2*8, 240+i/2*8, 1<<n-1)
		more -= n
	}
	return contentOf(8, l)
}

// ofLength is a content, and a rule by which its text has just so many bytes.
func ofLength(t *testing.T, length int) (content, string) {
	t.Helper()
	bytes := func(tiles, more int) int { return len(sown(tiles, more).text("B/S")) }
	tiles := sort.Search(960, func(n int) bool { return bytes(n+1, 1) > length })
	more := 1 + sort.Search(245, func(n int) bool { return bytes(tiles, n+2) > length })
	free := length - bytes(tiles, more)
	if free < 0 || free > 17 || tiles == 960 {
		t.Fatalf("%d bytes are free behind %d tiles and %d cells", free, tiles, more)
	}
	return sown(tiles, more), lawWith(free)
}

// tooLong is a content whose text has more bytes than any may have.
func tooLong(t *testing.T) content {
	t.Helper()
	q := sown(960, 246)
	if n := len(q.text("B/S")); n <= 65536 {
		t.Fatalf("%d bytes", n)
	}
	return q
}

// MA1, MA2: a text of just as many bytes as there may be, and of more.
func TestMostText(t *testing.T) {
	for _, length := range []int{65535, 65536, 65537} {
		q, law := ofLength(t, length)
		text := q.text(law)
		r, err := rule.Parse(law)
		if err != nil || len(text) != length {
			t.Fatalf("%d bytes by %s: %v", len(text), law, err)
		}
		s := wide(t)
		if length <= 65536 {
			s.writes(r, q.in(s), text)
			wide(t).parses(text, r, q)
			continue
		}
		s.writesNot(r, q.in(s), api.ErrLong)
		parsesNot(t, text, 0, api.ErrLong)
	}
}

// MA1: the rule counts, too: by one of a number more the same square is too long.
func TestMostTextByRule(t *testing.T) {
	q, law := ofLength(t, 65536)
	s := wide(t)
	id := q.in(s)
	for n := range 18 {
		r, err := rule.Parse(lawWith(n))
		if err != nil {
			t.Fatal(err)
		}
		if len(lawWith(n)) <= len(law) {
			s.writes(r, id, q.text(lawWith(n)))
		} else {
			s.writesNot(r, id, api.ErrLong)
		}
	}
}

// MA1: texts that are much longer than they may be; in a store of as many squares as there may be, too.
func TestWriteTooLong(t *testing.T) {
	s := wide(t)
	id := tooLong(t).in(s)
	s.writesNot(life, id, api.ErrLong)
	s.writesNot(rule.Rule{}, s.four(id, id, id, id), api.ErrLong)
	var front []int
	for i := range 1 << 14 {
		front = append(front, s.leaf(tile.Tile(i)<<40|1))
	}
	low := s.four(front[:4]...)
	for len(front) > 1 {
		for i := range len(front) / 4 {
			front[i] = s.four(front[4*i : 4*i+4]...)
		}
		front = front[:len(front)/4]
	}
	s.writesNot(life, front[0], api.ErrLong)
	for i := 0; s.Len() < 65536; i++ {
		s.leaf(tile.Tile(i)<<20 | 3)
	}
	s.writesNot(life, front[0], api.ErrLong)
	s.writes(life, low, heading+"*$\n*$$$$$*$\n*$$$$$.*$\n*$$$$$**$\n4 1 2 3 4\n")
}

// MA2: texts of as many bytes as there may be, of many lines, of long ones, of none; and of one byte more.
func TestParseMostText(t *testing.T) {
	filledUp := func(length int, first, part, last string) string {
		n := (length - len(first) - len(last)) / len(part)
		return first + strings.Repeat(part, n) + last
	}
	for _, part := range []string{"4 0 0 0 0\n", "40 0 0 0 0\n", "*$\n", ".......*$$*$\n", "4 1 0 0 0\n"} {
		for _, k := range []struct {
			last string
			want content
		}{{"4 1 0 0 1\n", ofFour(ofTile(1), ofTile(0), ofTile(0), ofTile(1))}, {"9 0 0 0 0\n", content{level: 9}}} {
			wide(t).parses(filledUp(65536, heading+"*$\n", part, k.last), life, k.want)
		}
		long := filledUp(1<<17, heading+"*$\n", part, "4 1 0 0 1\n")
		parsesNot(t, long, 0, api.ErrLong)
		at := strings.LastIndex(long[:65536], "\n") + 1
		if at < 65536 {
			parsesNot(t, long[:65536], at, api.ErrForm)
		}
		parsesNot(t, long[:65537], 0, api.ErrLong)
	}
	for _, part := range []string{"*", "$", ".", " ", "\n", "4", "0", "4 ", "x", "\x00", "[M2]\n", "#R "} {
		parsesNot(t, filledUp(65536, heading, part, ""), len(heading), api.ErrForm)
		parsesNot(t, filledUp(65536, "", part, ""), len(part)/5*5, api.ErrForm)
		parsesNot(t, filledUp(65536+len(part), heading, part, "x"), 0, api.ErrLong)
		parsesNot(t, filledUp(65536+len(part), "", part, "x"), 0, api.ErrLong)
	}
	parsesNot(t, filledUp(65536, "[M2]\n#R B3/S23", " ", "\n"), 5, api.ErrRule)
	parsesNot(t, filledUp(65537, "[M2]\n#R B3/S23", " ", "\n"), 0, api.ErrLong)
	parsesNot(t, strings.Repeat("a", 1<<20), 0, api.ErrLong)
}

// needy are lines of which each needs squares: its own, and all but the first one an empty one ahead of it.
const needy = "*$\n4 1 0 0 0\n5 0 2 0 0\n6 3 0 0 3\n"

// needs are how many squares there are when a line of needy wants one more, and where that line begins.
var needs = []struct{ squares, at int }{{0, 0}, {1, 3}, {2, 3}, {3, 13}, {4, 13}, {5, 23}, {6, 23}}

// MA2: where there is no room for all, the line is told that needs more, be it by an empty square or by its own; what is made stays.
func TestParseNoRoom(t *testing.T) {
	for _, k := range needs[1:] {
		s := storeOf(t, k.squares)
		if _, _, at, number := s.reads(heading + needy); number != api.ErrLimit || at != len(heading)+k.at || s.Len() != k.squares {
			t.Errorf("in a store of %d: %v at %d, %d squares", k.squares, number, at, s.Len())
		}
	}
	storeOf(t, 7).parses(heading+needy, life, ofFour(drawn(5, "................#"), drawn(5, ""), drawn(5, ""), drawn(5, "................#")))
}

// MA2: the same, in a store of as many squares as there may be in any.
func TestParseMostSquares(t *testing.T) {
	for _, k := range append(needs, struct{ squares, at int }{7, 0}) {
		s := wide(t)
		for i := range 65536 - k.squares {
			s.leaf(tile.Tile(i)<<30 | 6)
		}
		for range 2 { // what is there stays there, and needs no room
			_, id, at, number := s.reads(heading + needy)
			if s.Len() != 65536 {
				t.Errorf("with room for %d: %d squares", k.squares, s.Len())
			}
			if k.squares == 7 && (id != 65536 || number != 0) {
				t.Errorf("with room for all: %d, %v", id, number)
			}
			if k.squares < 7 && (number != api.ErrLimit || at != len(heading)+k.at) {
				t.Errorf("with room for %d: %v at %d", k.squares, number, at)
			}
		}
	}
}

// MA2: a tile's line that there is no room for, behind others.
func TestParseNoRoomForTile(t *testing.T) {
	for room := 1; room < 5; room++ {
		s := storeOf(t, room)
		if _, _, at, number := s.reads(heading + "*$\n.*$\n*$\n..*$\n...*$\n*.*$\n4 1 2 4 5\n"); number != api.ErrLimit || at != len(heading)+[]int{0, 3, 10, 15, 21}[room] {
			t.Errorf("in a store of %d: %v at %d", room, number, at)
		}
	}
}

// MA2: empty squares are made from below, up to the level that a line needs: how far they come, and what stays.
func TestParseNoRoomForEmpty(t *testing.T) {
	for level := 4; level <= 40; level++ {
		text := heading + numbered(level, 0, 0)
		for room := 1; room <= level-3; room++ {
			s := storeOf(t, room)
			if _, _, at, number := s.reads(text); number != api.ErrLimit || at != len(heading) || s.Len() != room {
				t.Fatalf("%s in a store of %d: %v at %d", text, room, number, at)
			}
			for i, q := range s.tells() {
				if n, err := s.Count(i + 1); q.level != 3+i || n != 0 || err != nil {
					t.Fatalf("the square %d: %v, of %d cells", i+1, q, n)
				}
			}
		}
		storeOf(t, level-2).parses(text, life, content{level: level})
	}
}

// MA2: a line's form is told ahead of the room that it needs, and then nothing is made of it.
func TestParseFormAheadOfRoom(t *testing.T) {
	for _, line := range []string{".*$\n", ".*$", "4 0 0 0 2\n", "4 0 0 0 00\n", "4 0 0 0 0", "5 0 0 0 1\n", "4 0 0 0 0 \n", "41 0 0 0 0\n", "\n", "x\n"} {
		for room := 1; room < 4; room++ {
			s := storeOf(t, room)
			if _, _, at, number := s.reads(heading + "*$\n" + line); number != api.ErrForm || at != len(heading)+3 || s.Len() != 1 {
				t.Errorf("%q in a store of %d: %v at %d, %d squares", line, room, number, at, s.Len())
			}
		}
	}
	// Of texts that are wrong ahead of all lines of squares, and of those that are too long, nothing is made.
	for _, text := range []string{"", "[M2]\n", heading, "[M2]\n#R B0/S\n" + block, "[M2] \n#R B3/S23\n" + block, heading + "*$\n", heading + strings.Repeat("*$\n", 30000) + block} {
		s := wide(t)
		if _, _, _, number := s.reads(text); number == 0 || s.Len() != 0 {
			t.Errorf("%.100q: %v, %d squares", text, number, s.Len())
		}
	}
}

// MA2: what was made ahead of an error stays, and nothing else is there; told again, mended, it is found.
func TestParseStays(t *testing.T) {
	s := wide(t)
	for _, k := range []struct {
		text    string
		squares int
	}{{"*$\nx\n", 1}, {"*$\n.*$\n4 1 2 3 0\n", 2}, {"*$\n.*$\n4 1 2 0 0\n5 1 0 0 0\n", 4}, {"*$\n.*$\n4 1 2 0 0\n5 3 0 0 0\n", 6}, {"*$\n.*$\n4 1 2 0 0\n5 3 0 0 0\n\n", 6}} {
		s.reads(heading + k.text)
		if s.Len() != k.squares {
			t.Errorf("%q: %d squares, want %d", k.text, s.Len(), k.squares)
		}
	}
}
