package rle

import (
	"slices"
	"strings"
	"testing"

	"quilt/api"
	"quilt/cells"
	"quilt/chance"
	"quilt/rule"
)

// thereAndBack asks that Parse of Write has the rule and the cells, moved, and that Write of that is the same text again.
func thereAndBack(t *testing.T, r rule.Rule, l []api.Cell) {
	t.Helper()
	s, err := Write(r, l)
	if err != nil {
		t.Fatalf("Write(%x, %v): %v", r, some(l), err)
	}
	want := home(l)
	parses(t, s, r, want)
	writes(t, r, want, s)
	if sorted, err := cells.Sorted(want); err != nil || !slices.Equal(sorted, want) {
		t.Fatalf("%v are not sorted", some(want))
	}
	for _, line := range strings.Split(s, "\n") {
		if len(line) > 70 {
			t.Fatalf("Write(%x, %v): a line of %d bytes: %s", r, some(l), len(line), line)
		}
	}
	if len(s) < 65000 {
		parses(t, "#a\n"+strings.TrimSuffix(s, "\n")+"o0x", r, want)
	}
}

// RE3: many rules and cells, near and far, thick and thin, in any order.
func TestThereAndBack(t *testing.T) {
	c := chance.Chance(5)
	for range 1500 {
		p := anyShape(&c, 1+c.Below(200))
		x, y := anyBelow(&c, 2*far-p.size.X)-far, anyBelow(&c, 2*far-p.size.Y)-far
		thereAndBack(t, anyRule(&c), shuffled(&c, moved(p.cells, x, y)))
	}
	for range 1500 {
		var l []api.Cell
		width, height := 1<<c.Below(39), 1<<c.Below(39)
		for range c.Below(1 << c.Below(11)) {
			l = append(l, api.Cell{X: far - anyBelow(&c, width), Y: anyBelow(&c, height) - far})
		}
		thereAndBack(t, anyRule(&c), l)
	}
}

// RE3: none, one, as many as may be, as far as may be, as long as may be.
func TestThereAndBackEdges(t *testing.T) {
	for _, l := range [][]api.Cell{
		nil, {{}}, {{X: -far, Y: -far}}, {{X: far, Y: far}}, {{X: -far, Y: far}, {X: -1, Y: 1}}, wall(4096), moved(wall(4096), far-63, far-63), moved(wall(4096), -far, -far),
		{{X: 1, Y: 1}, {X: far, Y: far}}, {{X: far, Y: 1}, {X: 1, Y: far}}, {{X: -far}, {X: -1}}, {{Y: -far}, {Y: -1}}, slices.Repeat([]api.Cell{{X: 3}}, 4096),
	} {
		for _, r := range []rule.Rule{life, {}, {Born: 0x1fe}, {Live: 0x1ff}, {Born: 2, Live: 1}, {Born: 1 << 8, Live: 1 << 8}} {
			thereAndBack(t, r, l)
		}
	}
	thereAndBack(t, life, ofLength(t, 65536).cells)
}

// RE3: all rules that may be.
func TestThereAndBackRules(t *testing.T) {
	l := spots("##. .## .#.")
	for born := range uint16(256) {
		for live := range uint16(512) {
			r := rule.Rule{Born: born * 2, Live: live}
			s, err := Write(r, l)
			if err != nil {
				t.Fatal(err)
			}
			parses(t, s, r, l)
		}
	}
}

// RE2, RE3: texts that are written otherwise come to be as Write writes them, and then stay.
func TestWriteOfParse(t *testing.T) {
	for _, k := range []struct{ s, want string }{
		{"#a\nx=9,y=0,rule=b3/s32\n1b1o$b1bo b$ooo$$!", gliderHead + gliderRuns + "\n"},
		{"x=0,y=0,rule=B3/S23\n5$7bo$8bo$6b3o!", gliderHead + gliderRuns + "\n"},
		{"x = 3, y = 3, rule = B3/S23\n9$9b!", headOfNone + "!\n"},
		{headOfNone + "oo$$\n$oo4b!", "x = 2, y = 4, rule = B3/S23\n2o3$2o!\n"},
		{headOfNone + "274877906944$274877906944bo!", "x = 1, y = 1, rule = B3/S23\no!\n"},
	} {
		r, l, _, err := Parse(k.s)
		if err != nil {
			t.Fatalf("Parse(%q): %v", k.s, err)
		}
		writes(t, r, l, k.want)
		thereAndBack(t, r, l)
	}
	// What is read may be wider, and higher, than what is written.
	r, l, _, err := Parse(headOfNone + "o274877906943bo!")
	if err != nil || len(l) != 2 {
		t.Fatalf("Parse of what is too wide: %v, %v", l, err)
	}
	writesNot(t, r, l, api.ErrRange)
	r, l, _, err = Parse(headOfNone + "o274877906944$o!")
	if err != nil || len(l) != 2 {
		t.Fatalf("Parse of what is too high: %v, %v", l, err)
	}
	writesNot(t, r, l, api.ErrRange)
}

// spare is a list with spare room behind it, in which something stands.
func spare(l []api.Cell) []api.Cell {
	room := slices.Grow(slices.Clone(l), 20)
	for i := len(l); i < cap(room); i++ {
		room[:cap(room)][i] = api.Cell{X: 77, Y: -77}
	}
	return room
}

// spoil writes over a list, and its spare room.
func spoil(l []api.Cell) {
	for i := range l[:cap(l)] {
		l[:cap(l)][i] = api.Cell{X: -1, Y: -1}
	}
}

// Rule 3: the cells that are handed in are not changed, their spare room neither, be there an error or not; a text that was answered stays as it is when they are written over.
func TestWriteKeepsNothing(t *testing.T) {
	c := chance.Chance(6)
	longText := ofLength(t, 65537).cells
	for _, l := range [][]api.Cell{nil, spots("#"), shuffled(&c, glider()), shuffled(&c, wall(3000)), wall(4097), {{X: 5}, {X: far + 1}, {X: 2}}, {{X: 5}, {X: -far}, {X: 2}}, shuffled(&c, longText)} {
		for _, r := range []rule.Rule{life, {Born: 1}} {
			arg := spare(l)
			before := slices.Clone(arg[:cap(arg)])
			s, err := Write(r, arg)
			if !slices.Equal(arg[:cap(arg)], before) {
				t.Fatalf("%v is changed", some(l))
			}
			again := strings.Clone(s)
			spoil(arg)
			if s != again {
				t.Fatalf("the text of %v is changed", some(l))
			}
			if got, gotErr := Write(r, spare(l)); got != again || (err == nil) != (gotErr == nil) {
				t.Fatalf("Write of %v again: %q, %v", some(l), got, gotErr)
			}
		}
	}
}

// Rule 3: each list of cells that is answered is new, its spare room too.
func TestParseAnswersApart(t *testing.T) {
	for _, s := range []string{gliderHead + gliderRuns, headOfNone + "!", headOfNone + "4096o!", headOfNone + "1000o$o!"} {
		r, first, _, err := Parse(s)
		if err != nil {
			t.Fatal(err)
		}
		want := slices.Clone(first)
		_, second, _, _ := Parse(s)
		spoil(second)
		if !slices.Equal(first, want) {
			t.Fatal("two answers share memory")
		}
		parses(t, s, r, want)
		spoil(first)
		parses(t, s, r, want)
	}
}

// Rule 4: the same tells the same again, whatever was asked in between.
func TestSameAgain(t *testing.T) {
	for range 20 {
		parses(t, gliderHead+gliderRuns, life, glider())
		parsesNot(t, headOfNone+"4000o$97o!", len(headOfNone)+6, api.ErrLimit)
		writes(t, life, glider(), gliderHead+gliderRuns+"\n")
		writesNot(t, life, wall(4097), api.ErrLong)
		parsesNot(t, "#\n"+headOfNone+"bo", len(headOfNone)+4, api.ErrForm)
		writes(t, life, nil, headOfNone+"!\n")
	}
}
