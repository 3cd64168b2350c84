package macro

import (
	"slices"
	"strings"
	"testing"

	"quilt/api"
	"quilt/chance"
	"quilt/rule"
)

// thereAndBack asks that Parse of Write is the same square in the same store, and has the same cells in others, with the same text again.
func thereAndBack(t *testing.T, r rule.Rule, q content, others []content) {
	t.Helper()
	s := wide(t)
	for _, other := range others {
		other.in(s)
	}
	id := q.in(s)
	text := q.text(lawOf(t, r))
	s.writes(r, id, text)
	sameSquare(s, text, r, id)
	// So it is where there is no room for any other square.
	full := storeOf(t, s.Len())
	for _, other := range others {
		other.in(full)
	}
	sameSquare(full, text, r, q.in(full))
	elsewhere := wide(t)
	for range 2 { // in an empty store, and in one that has it
		elsewhere.parses(text, r, q)
	}
	elsewhere = wide(t)
	for _, other := range others {
		other.in(elsewhere)
	}
	before := elsewhere.tells()
	elsewhere.parses(text, r, q)
	if !slices.Equal(elsewhere.tells()[:len(before)], before) {
		t.Fatalf("Parse(%.300q): squares are changed that were there", text)
	}
	elsewhere.writes(r, q.in(elsewhere), text)
}

// sameSquare asks that a text is read as a square, in a store that has it, and that none is made.
func sameSquare(s store, text string, r rule.Rule, id int) {
	s.t.Helper()
	before := s.tells()
	if got, gotID, at, err := Parse(text, s.Store); got != r || gotID != id || at != 0 || err != nil {
		s.t.Fatalf("Parse(%.300q): %x, %d, %d, %v, want %x, %d", text, got, gotID, at, err, r, id)
	}
	s.stays(before)
}

// MA3: many squares and rules, in the same store, in an empty one, in one that has others.
func TestThereAndBack(t *testing.T) {
	c := chance.Chance(6)
	for range 120 {
		var others []content
		for range c.Below(5) {
			others = append(others, anyWoven(&c, 3+c.Below(4)), anyFew(&c, 3+c.Below(38)))
		}
		thereAndBack(t, anyRule(&c), anyWoven(&c, 4+c.Below(4)), others)
		thereAndBack(t, anyRule(&c), anyFew(&c, 4+c.Below(37)), others)
	}
}

// MA3: empty squares, squares of one cell in each corner, full ones; of each level.
func TestThereAndBackEdges(t *testing.T) {
	for level := 4; level <= 40; level++ {
		far := 1<<level - 1
		thereAndBack(t, life, content{level: level}, nil)
		thereAndBack(t, life, content{level: level}, []content{{level: 40}})
		for _, at := range []api.Cell{{}, {X: far}, {Y: far}, {X: far, Y: far}, {X: far / 2, Y: far / 2}, {X: far/2 + 1, Y: far / 2}} {
			thereAndBack(t, life, content{level, []api.Cell{at}}, []content{drawn(5, "##")})
		}
		thereAndBack(t, rule.Rule{}, contentOf(level, []api.Cell{{}, {X: far}, {Y: far}, {X: far, Y: far}}), nil)
	}
}

// MA3: squares with more cells than can be told one by one.
func TestThereAndBackFull(t *testing.T) {
	s, other := wide(t), wide(t)
	id, again := s.leaf(allLive), other.leaf(allLive)
	for range 37 {
		id, again = s.four(id, id, id, id), other.four(again, again, again, again)
		text, err := Write(life, s.Store, id)
		if err != nil {
			t.Fatal(err)
		}
		sameSquare(s, text, life, id)
		sameSquare(other, text, life, again)
		if _, _, _, number := wide(t).reads(text); number != 0 {
			t.Fatalf("Parse(%q): %v", text, number)
		}
	}
}

// MA3: all rules that may be.
func TestThereAndBackRules(t *testing.T) {
	s := wide(t)
	id := drawn(4, ".#. ..# ###").in(s)
	for born := range uint16(256) {
		for live := range uint16(512) {
			r := rule.Rule{Born: born * 2, Live: live}
			text, err := Write(r, s.Store, id)
			if err != nil {
				t.Fatal(err)
			}
			if got, gotID, at, err := Parse(text, s.Store); got != r || gotID != id || at != 0 || err != nil {
				t.Fatalf("Parse(%q): %x, %d, %d, %v", text, got, gotID, at, err)
			}
		}
	}
}

// MA2, MA3: texts that are written otherwise come to be as Write writes them, and then stay.
func TestWriteOfParse(t *testing.T) {
	for _, k := range []struct{ text, want string }{
		{"[M2]\n#R b3/s32\n" + block, heading + block},
		{heading + "*$\n**$**$\n4 2 0 0 0\n", heading + block},
		{heading + "**$**$\n**$**$\n4 2 0 0 1\n", heading + "**$**$\n4 1 0 0 1\n"},
		{heading + ".*$\n*$\n4 2 0 0 1\n", heading + "*$\n.*$\n4 1 0 0 2\n"},
		{heading + block + "4 0 0 0 0\n5 2 3 3 0\n", heading + block + "5 2 0 0 0\n"},
		{heading + block + block[7:] + "5 3 2 3 2\n6 0 0 0 0\n6 4 0 0 0\n", heading + block + "5 2 2 2 2\n6 3 0 0 0\n"},
		{heading + block + "7 0 0 0 0\n", heading + "7 0 0 0 0\n"},
		{heading + "39 0 0 0 0\n40 1 1 1 1\n", heading + "40 0 0 0 0\n"},
	} {
		s := wide(t)
		r, id, _, number := s.reads(k.text)
		if number != 0 {
			t.Fatalf("Parse(%q): %v", k.text, number)
		}
		s.writes(r, id, k.want)
		sameSquare(s, k.want, r, id)
	}
}

// Rule 4: the same tells the same again, whatever was asked in between.
func TestSameAgain(t *testing.T) {
	s := wide(t)
	id := drawn(5, "## ##").in(s)
	for range 20 {
		s.writes(life, id, heading+block+"5 2 0 0 0\n")
		s.writesNot(life, 1, api.ErrArg)
		s.writesNot(rule.Rule{Born: 1}, id, api.ErrRule)
		sameSquare(s, heading+block+"5 2 0 0 0\n", life, id)
		parsesNot(t, heading+"*$\n4 1 0 0 2\n", len(heading)+3, api.ErrForm)
		parsesNot(t, strings.Repeat(heading, 5000), 0, api.ErrLong)
		wide(t).parses(heading+block, life, drawn(4, "## ##"))
	}
}
