package macro

import (
	"strings"
	"testing"

	"quilt/api"
	"quilt/rule"
)

// block are the lines of squares of the chapter's example.
const block = "**$**$\n4 1 0 0 0\n"

// MA2: the chapter's example, and others at sight.
func TestParseKnown(t *testing.T) {
	for _, k := range []struct {
		text string
		want content
	}{
		{block, drawn(4, "## ##")},
		{"4 0 0 0 0\n", drawn(4, "")},
		{"40 0 0 0 0\n", drawn(40, "")},
		{".*$..*$***$\n4 1 0 0 0\n", drawn(4, ".#. ..# ###")},
		{".*$..*$***$\n4 0 1 0 0\n", drawn(4, ".........#. ..........# ........###")},
		{"$$$$$$$.......*$\n$$$$$$$*$\n.......*$\n*$\n4 1 2 3 4\n", drawn(4, ". . . . . . . .......## .......##")},
		{"*$\n4 1 0 0 0\n4 1 1 0 0\n5 2 3 0 0\n", drawn(5, "#...............#.......#")},
		{block + "5 2 0 0 0\n6 3 0 0 0\n", drawn(6, "## ##")},
	} {
		wide(t).parses(heading+k.text, life, k.want)
	}
}

// MA2: in no store, whatever the text is.
func TestParseNoStore(t *testing.T) {
	for _, text := range []string{"", "x", "[M2]\n", heading, heading + block, heading + "*$\n", "[M2]\n#R B0/S\n", strings.Repeat("a", 65537), strings.Repeat("$", 1<<20)} {
		if r, id, at, err := Parse(text, nil); r != (rule.Rule{}) || id != 0 || at != 0 || !isError(err, api.ErrArg) {
			t.Errorf("Parse(%.300q, nil): %x, %d, %d, %v", text, r, id, at, err)
		}
	}
}

// MA2: texts whose first line is missing, broken, or without its end.
func TestParseFirstLine(t *testing.T) {
	for _, first := range []string{
		"", "\n", "[M2]", "[M2] \n", " [M2]\n", "\t[M2]\n", "[M2]\t\n", "[M2]\r\n", "[m2]\n", "[M2]]\n", "[[M2]\n", "[M2\n", "M2]\n", "M2\n", "[M]\n", "[M1]\n", "[M3]\n", "[M22]\n", "[ M2 ]\n", "[M 2]\n", "(M2)\n",
		"[M2] (golly 4.0)\n", "[M2] #R B3/S23\n", "[M2]#R B3/S23\n", "[M2][M2]\n", "\n[M2]\n", "\r\n[M2]\n", "#C a\n[M2]\n", "\ufeff[M2]\n", "[M2]\x00\n", "\x00[M2]\n", "[M2]\xff\n", "\xff[M2]\n", "[M2]\v\n", "[\n", "[M\n2]\n",
	} {
		for _, behind := range []string{"", "#R B3/S23\n", "#R B3/S23\n" + block, "#R B0/S\n", "x\n", block} {
			if first+behind != "[M2]\n" {
				parsesNot(t, first+behind, 0, api.ErrForm)
			}
		}
	}
}

// MA2: texts whose second line is missing, broken, or without its end.
func TestParseSecondLine(t *testing.T) {
	for _, second := range []string{
		"", "\n", "[M2]\n", "#\n", "#R\n", "#R", "#R ", "#R B3/S23", "#R B0/S", "#R x", "#RB3/S23\n", "#r B3/S23\n", "#R\tB3/S23\n", "#R\vB3/S23\n", "#R\u00a0B3/S23\n", " #R B3/S23\n", "\t#R B3/S23\n", "# R B3/S23\n", "#R\r\n", "R B3/S23\n", "##R B3/S23\n", "#RR B3/S23\n", "#R: B3/S23\n",
		"B3/S23\n", "#C a\n#R B3/S23\n", "#G 4\n#R B3/S23\n", "\n#R B3/S23\n", "\r\n", "\r\n#R B3/S23\n", "#R\nB3/S23\n", "#\nR B3/S23\n", "\x00#R B3/S23\n", "\xff#R B3/S23\n", "rule = B3/S23\n", "4 0 0 0 0\n", "*$\n",
	} {
		parsesNot(t, "[M2]\n"+second, 5, api.ErrForm)
		if !strings.HasPrefix(second, "#R ") {
			parsesNot(t, "[M2]\n"+second+block, 5, api.ErrForm)
			parsesNot(t, "[M2]\n"+second+"x", 5, api.ErrForm)
		}
	}
}

// MA2: rules as layer 8 takes them: small letters too, and any order of the numbers.
func TestParseRules(t *testing.T) {
	for _, k := range []struct {
		law  string
		want rule.Rule
	}{
		{"B3/S23", life}, {"b3/s23", life}, {"B3/s23", life}, {"b3/S32", life}, {"B/S", rule.Rule{}}, {"b/s", rule.Rule{}}, {"B63/S23", rule.Rule{Born: 1<<3 | 1<<6, Live: 12}},
		{"B87654321/S876543210", rule.Rule{Born: 0x1fe, Live: 0x1ff}}, {"B1/S0", rule.Rule{Born: 2, Live: 1}}, {"B/S8", rule.Rule{Live: 1 << 8}}, {"B8/S", rule.Rule{Born: 1 << 8}},
	} {
		wide(t).parses("[M2]\n#R "+k.law+"\n"+block, k.want, drawn(4, "## ##"))
		wide(t).parses("[M2]\n#R "+k.law+"\n9 0 0 0 0\n", k.want, drawn(9, ""))
	}
}

// MA2: what stands behind the mark and is no rule, be it nothing, or more than a rule: told at the second line, whatever stands behind it.
func TestParseWrongRules(t *testing.T) {
	for _, law := range []string{
		"", " ", "\t", "\r", "  ", "B3/S23 ", " B3/S23", "B3/S23\r", "B3/S23\t", "\tB3/S23", "B3 /S23", "B3/ S23", "B 3/S23", "B3/S 23", "B3/S2 3", "B3/S23 B3/S23", "B3/S23 x", "B3/S23 #", "B3/S23,", "B3/S23!", "B3/S23/", "B3/S23\x00", "B3/S23\xff", "\xff", "\x00",
		"B0/S", "B03/S23", "b0/s23", "B30/S23", "B012345678/S012345678", "B9/S", "B3/S9", "B33/S23", "B3/S22", "B3", "B3/", "/S23", "B3/23", "3/S23", "23/3", "S23/B3", "B", "life", "#R B3/S23", "=B3/S23", "\"B3/S23\"", "B3/S23V", "B3/S23:T8,8", "B\u0663/S23",
	} {
		for _, behind := range []string{"", block, "x", "x\n", "\n", "*$\n", "#R B3/S23\n" + block} {
			parsesNot(t, "[M2]\n#R "+law+"\n"+behind, 5, api.ErrRule)
		}
		parsesNot(t, "[M2]\n#R "+law, 5, api.ErrForm)
		parsesNot(t, "[M2] \n#R "+law+"\n"+block, 0, api.ErrForm)
	}
}

// MA2: each rule that may be, and each that may not for what is born of nothing.
func TestParseEachRule(t *testing.T) {
	s := wide(t)
	id := drawn(4, "## ##").in(s)
	for born := range uint16(256) {
		for live := range uint16(512) {
			want := rule.Rule{Born: born * 2, Live: live}
			law := lawOf(t, want)
			if r, got, at, err := Parse("[M2]\n#R "+law+"\n"+block, s.Store); r != want || got != id || at != 0 || err != nil {
				t.Fatalf("Parse by %s: %x, %d, %d, %v", law, r, got, at, err)
			}
			if r, got, at, err := Parse("[M2]\n#R B0"+law[1:]+"\n"+block, s.Store); r != (rule.Rule{}) || got != 0 || at != 5 || !isError(err, api.ErrRule) {
				t.Fatalf("Parse by B0%s: %x, %d, %d, %v", law[1:], r, got, at, err)
			}
		}
	}
}
