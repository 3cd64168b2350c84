package rle

import (
	"math"
	"slices"
	"strconv"
	"strings"
	"testing"

	"quilt/api"
	"quilt/chance"
	"quilt/rule"
)

// gliderHead and gliderRuns are the chapter's example.
const gliderHead, gliderRuns = "x = 3, y = 3, rule = B3/S23\n", "bo$2bo$3o!"

func glider() []api.Cell { return spots(".#. ..# ###") }

// RE2: the chapter's example, as it is written by others too.
func TestParseKnown(t *testing.T) {
	for _, s := range []string{
		gliderHead + gliderRuns,
		gliderHead + gliderRuns + "\n",
		"#C a glider\n#O nobody\n" + gliderHead + gliderRuns,
		"x=3,y=3,rule=b3/s23\nbo$\n2bo$\n3o!",
		"x = 0, y = 0, rule = B3/S23\nbob$2bo$3o$$!\n",
		"x = 3, y = 3, rule = B3/S23\r\nbo$2bo\r\n$3o!\r\n",
	} {
		parses(t, s, life, glider())
	}
}

// RE2: texts without a head: at the text's end, if they are nothing but notes.
func TestParseNoHead(t *testing.T) {
	for _, s := range []string{"", "#", "##", "#a", "#a#", "# x = 3", "#\n", "#a\n", "#a\n#", "#a\n#b", "#a\n#b\n", "#\n#\n#\n", "#" + gliderHead, "#\r\n", "#\xff\n#\x00\n"} {
		parsesNot(t, s, len(s), api.ErrForm)
	}
	for _, notes := range []string{"", "#\n", "#a\n", "#a\r\n", "#\n#b\n", "#x = 3, y = 3, rule = B3/S23\n#!\n", "##\n", "#" + strings.Repeat("long", 1000) + "\n"} {
		parses(t, notes+gliderHead+gliderRuns, life, glider())
		for _, wrong := range []string{"\n", " ", "\r\n", "\n\n", "!", "\n!", gliderRuns, "bo!", "\n" + gliderHead + gliderRuns, " #a\n" + gliderHead + gliderRuns, "\t#\n", "a#\n", "\n#\n" + gliderHead + gliderRuns, "\x00", "\xff"} {
			parsesNot(t, notes+wrong, len(notes), api.ErrForm)
		}
	}
}

// RE2: a note between the head and the runs, or among them, can't stand there.
func TestParseNotesBehind(t *testing.T) {
	parsesNot(t, gliderHead+"#a\n"+gliderRuns, len(gliderHead), api.ErrForm)
	parsesNot(t, gliderHead+"bo$\n#a\n2bo!", len(gliderHead)+4, api.ErrForm)
	parses(t, gliderHead+gliderRuns+"\n#a", life, glider())
}

// headParts are those of a head about which blanks may stand.
func headParts() []string {
	return []string{"x", "=", "3", ",", "y", "=", "3", ",", "rule", "=", "B3/S23"}
}

// RE2: a head with and without blanks at each place where these may stand; with other bytes there.
func TestParseHeadBlanks(t *testing.T) {
	parts := headParts()
	for gap := range len(parts) + 1 {
		ahead, behind := strings.Join(parts[:gap], ""), strings.Join(parts[gap:], "")
		aheadApart, behindApart := strings.Join(parts[:gap], "\t"), strings.Join(parts[gap:], " ")
		for _, blanks := range []string{"", " ", "\t", "\r", "  ", "\r\r", " \t\r\t ", strings.Repeat(" ", 3000)} {
			for _, notes := range []string{"", "#a\n"} {
				parses(t, notes+ahead+blanks+behind+"\n"+gliderRuns, life, glider())
				parses(t, notes+aheadApart+blanks+behindApart+"\n"+gliderRuns, life, glider())
			}
		}
		for _, other := range []string{"\v", "\f", "\x00", "\u00a0", "\u0085", "\u2003", "\xff", "\b", "\x1f", "!", ".", "_", " \v", "\f ", " \u00a0 "} {
			want := api.ErrForm
			if gap >= len(parts)-1 {
				want = api.ErrRule
			}
			parsesNot(t, ahead+other+behind+"\n"+gliderRuns, 0, want)
			parsesNot(t, "#a\n"+aheadApart+other+behindApart+"\n"+gliderRuns, 3, want)
		}
	}
}

// RE2: the head is one line: behind a line end among its parts there is no more of it.
func TestParseHeadLine(t *testing.T) {
	parts := headParts()
	for gap := range len(parts) {
		s := strings.Join(parts[:gap], " ") + "\n" + strings.Join(parts[gap:], " ") + "\n" + gliderRuns
		want := api.ErrForm
		if gap == len(parts)-1 {
			want = api.ErrRule
		}
		parsesNot(t, s, 0, want)
		parsesNot(t, "#\n"+s, 2, want)
	}
	parses(t, gliderHead+"\n\n"+gliderRuns, life, glider())
	// A head without an end has no runs behind it.
	for _, notes := range []string{"", "#a\n"} {
		s := notes + "x = 3, y = 3, rule = B3/S23"
		parsesNot(t, s, len(s), api.ErrForm)
		parsesNot(t, s+" ", len(s)+1, api.ErrForm)
		parsesNot(t, s+"\n", len(s)+1, api.ErrForm)
		parsesNot(t, s+gliderRuns, len(notes), api.ErrRule)
		parsesNot(t, s+"!", len(notes), api.ErrRule)
		parsesNot(t, s+" !", len(notes), api.ErrRule)
		parses(t, s+"\n!", life, nil)
	}
}

// RE2: no blank may stand within a word or a number, nor within a rule.
func TestParseHeadBroken(t *testing.T) {
	for _, head := range []string{"x = 1 2, y = 3, rule = B3/S23", "x = 12, y = 3\t4, rule = B3/S23", "x = 12, y = 3, r ule = B3/S23", "x = 12, y = 3, rul\re = B3/S23"} {
		parsesNot(t, head+"\n"+gliderRuns, 0, api.ErrForm)
	}
	for _, law := range []string{"B3 /S23", "B3/ S23", "B 3/S23", "B3/S2 3", "B3/S\t23", "B3\r/S23"} {
		parsesNot(t, "x = 3, y = 3, rule = "+law+"\n"+gliderRuns, 0, api.ErrRule)
	}
}

// RE2: heads that have not their form.
func TestParseHeadWrong(t *testing.T) {
	for _, head := range []string{
		"y = 3, x = 3, rule = B3/S23", "rule = B3/S23, x = 3, y = 3", "x = 3, rule = B3/S23, y = 3", "rule = B3/S23, y = 3, x = 3", "y = 3, rule = B3/S23, x = 3",
		"x = 3, y = 3", "x = 3, y = 3,", "x = 3", "x", "x =", "rule = B3/S23", "x = 3, rule = B3/S23", "y = 3, rule = B3/S23", "x = 3, y = 3, B3/S23", "3, 3, B3/S23", "x = 3, y = 3, rule", "x = 3, y = 3, rule B3/S23",
		"x = 3, y = 3 rule = B3/S23", "x = 3 y = 3, rule = B3/S23", "x = 3; y = 3; rule = B3/S23", "x = 3,, y = 3, rule = B3/S23", "x = 3, y = 3,, rule = B3/S23", ", x = 3, y = 3, rule = B3/S23", "x = 3, y = 3, z = 3, rule = B3/S23",
		"x == 3, y = 3, rule = B3/S23", "x = 3, y == 3, rule = B3/S23", "x 3, y = 3, rule = B3/S23", "x = 3, y 3, rule = B3/S23", "x : 3, y : 3, rule : B3/S23", "= 3, = 3, = B3/S23", "x = 3 = 3, y = 3, rule = B3/S23", "x = 3, y = 3 = 3, rule = B3/S23",
		"X = 3, y = 3, rule = B3/S23", "x = 3, Y = 3, rule = B3/S23", "x = 3, y = 3, Rule = B3/S23", "x = 3, y = 3, RULE = B3/S23", "x = 3, y = 3, rules = B3/S23", "x = 3, y = 3, rul = B3/S23", "xx = 3, y = 3, rule = B3/S23", "x = 3, x = 3, rule = B3/S23", "y = 3, y = 3, rule = B3/S23",
		"x = 3, y = 3, rule, = B3/S23", "x = y, y = 3, rule = B3/S23", ";x = 3, y = 3, rule = B3/S23", "\xffx = 3, y = 3, rule = B3/S23", "x = 3, y = 3, = B3/S23", "x = 3, y = 3, x = 3, y = 3, rule = B3/S23",
	} {
		for _, notes := range []string{"", "#a\n", "#\n#\n#\n"} {
			for _, behind := range []string{"", "\n", "\n" + gliderRuns, "\n0!"} {
				parsesNot(t, notes+head+behind, len(notes), api.ErrForm)
			}
		}
	}
}

// RE2: numbers of a head that may be: from 0 to 2^38, whatever the cells are; and such as may not.
func TestParseHeadNumbers(t *testing.T) {
	headOf := func(x, y string) string { return "x = " + x + ", y = " + y + ", rule = B3/S23\n" }
	for _, good := range []string{"0", "1", "2", "3", "9", "10", "100", "1000000", "99999999999", "100000000000", "274877906943", "274877906944", "202020"} {
		parses(t, headOf(good, "3")+gliderRuns, life, glider())
		parses(t, headOf("3", good)+gliderRuns, life, glider())
		parses(t, headOf(good, good)+gliderRuns, life, glider())
	}
	wrong := []string{"", "00", "000", "01", "03", "0274877906944", "00000000000000003", "-0", "-1", "-3", "+3", "3.", "3.0", ".3", "3e0", "0x3", "3_0", "3'0", "a", "3a", "a3", "x", "\u0663", "\uff13", "3-", "--3",
		"274877906945", "274877906946", "274877906950", "274877907944", "1000000000000", "4611686018427387904", strconv.Itoa(math.MaxInt), "9223372036854775808", "18446744073709551615", "18446744073709551616", "18446744073709551617", "18446744073709551619",
		"340282366920938463463374607431768211459", "3" + strings.Repeat("0", 5000), strings.Repeat("9", 30000), "1" + strings.Repeat("0", 64)}
	for _, bad := range wrong {
		for _, notes := range []string{"", "#a\n"} {
			parsesNot(t, notes+headOf(bad, "3")+gliderRuns, len(notes), api.ErrForm)
			parsesNot(t, notes+headOf("3", bad)+gliderRuns, len(notes), api.ErrForm)
			parsesNot(t, notes+headOf(bad, bad)+"x", len(notes), api.ErrForm)
		}
	}
}

// RE2: a rule as layer 8 takes it, and none other: the error is told at the head's begin.
func TestParseHeadRules(t *testing.T) {
	headOf := func(law string) string { return "x = 3, y = 3, rule = " + law + "\n" }
	for _, k := range []struct {
		law  string
		want rule.Rule
	}{
		{"B3/S23", life}, {"b3/s23", life}, {"B3/s32", life}, {"B/S", rule.Rule{}}, {"b/s", rule.Rule{}}, {"B36/S23", rule.Rule{Born: 1<<3 | 1<<6, Live: 12}},
		{"B87654321/S876543210", rule.Rule{Born: 0x1fe, Live: 0x1ff}}, {"B1/S0", rule.Rule{Born: 2, Live: 1}}, {" \t\rB3/S23\r\t ", life},
	} {
		parses(t, headOf(k.law)+gliderRuns, k.want, glider())
		parses(t, "#a\n"+headOf(k.law)+"!", k.want, nil)
	}
	for _, law := range []string{
		"", " ", "\r", "\t \r", "B0/S", "B03/S23", "b0/s23", "B9/S", "B3/S9", "B33/S23", "B3/S22", "B3", "B3/", "/S23", "B3/23", "23/3", "3/23", "S23/B3", "B", "life", "Life", "#R B3/S23", "\"B3/S23\"",
		"B3/S23,", "B3/S23;", "B3/S23 B3/S23", "B3/S23 x", "B3/S23 = ", "= B3/S23", "B3/S23=3", "B3/S23, x = 3", "B3/S23:T8,8", "B3/S23!", "B3/S23 #", "B3/S23#a", "B3/S23\v", "\fB3/S23", "B3/S23\x00", "B3/S23\u00a0", "\u0085B3/S23", ",B3/S23", "B3/S23bo!", "B3/S23\xff",
	} {
		for _, notes := range []string{"", "#a\n"} {
			for _, behind := range []string{"", gliderRuns, "0!", "x"} {
				parsesNot(t, notes+headOf(law)+behind, len(notes), api.ErrRule)
			}
			parsesNot(t, notes+strings.TrimSuffix(headOf(law), "\n"), len(notes), api.ErrRule)
			// The form of all ahead of it is told first.
			parsesNot(t, notes+strings.Replace(headOf(law), "y = 3", "y = 03", 1), len(notes), api.ErrForm)
			parsesNot(t, notes+strings.Replace(headOf(law), "x = 3", "x = 274877906945", 1), len(notes), api.ErrForm)
		}
	}
}

// RE2: each rule that may be, and each that may not for what is born of nothing.
func TestParseEachRule(t *testing.T) {
	for born := range uint16(256) {
		for live := range uint16(512) {
			r := rule.Rule{Born: born * 2, Live: live}
			name := named(t, r)
			parses(t, "x = 0, y = 0, rule = "+name+"\no!", r, spots("#"))
			parsesNot(t, "x = 0, y = 0, rule = B0"+name[1:]+"\no!", 0, api.ErrRule)
		}
	}
}

// RE2: a text of just as many bytes as there may be, of notes, of blanks, of what stands behind; and one more, whatever it is.
func TestParseMostText(t *testing.T) {
	filledUp := func(length int, ahead, part, behind string) string {
		return ahead + strings.Repeat(part, length-len(ahead)-len(behind)) + behind
	}
	for _, k := range []struct{ ahead, part, behind string }{
		{"#", "a", "\n" + gliderHead + gliderRuns},
		{"#a\n", "#", "\n" + gliderHead + gliderRuns},
		{" ", "\t", gliderHead + gliderRuns},
		{"x =", " ", "3, y = 3, rule = B3/S23\n" + gliderRuns},
		{"x = 3, y = 3, rule = B3/S23", "\r", "\n" + gliderRuns},
		{gliderHead, "\n", gliderRuns},
		{gliderHead + "bo$2bo$3o", " ", "!"},
		{gliderHead + gliderRuns, "!", ""},
		{gliderHead + gliderRuns, "0", ""},
	} {
		for _, length := range []int{65535, 65536} {
			parses(t, filledUp(length, k.ahead, k.part, k.behind), life, glider())
		}
		for _, length := range []int{65537, 65538, 1 << 17, 1 << 20} {
			parsesNot(t, filledUp(length, k.ahead, k.part, k.behind), 0, api.ErrLong)
		}
	}
	parses(t, filledUp(65536, gliderHead, "$", "o!"), life, []api.Cell{{Y: 65536 - len(gliderHead) - 2}})
	for _, part := range []string{"a", "#", " ", "\n", "!", "\x00"} {
		parsesNot(t, strings.Repeat(part, 65537), 0, api.ErrLong)
	}
	parsesNot(t, strings.Repeat("a", 65536), 0, api.ErrForm)
	parsesNot(t, strings.Repeat("#", 65536), 65536, api.ErrForm)
	parsesNot(t, strings.Repeat("#\n", 32768), 65536, api.ErrForm)
	parsesNot(t, filledUp(65536, "#\n"+gliderHead, "b", ""), 65536, api.ErrForm)
	parsesNot(t, filledUp(65537, "x = 3, y = 3, rule = B0/S\n", "b", ""), 0, api.ErrLong)
}

// RE2: each byte at each place of a good text, in place of another one or between, and each cut.
func TestParseEachByte(t *testing.T) {
	good := "#a\n x = 3, y = 10, rule = B3/S23 \n12bo 2$ b3o!\n"
	seen := map[api.Errno]int{}
	for i := range len(good) + 1 {
		seen[reads(t, good[:i])]++
		seen[reads(t, good[i:])]++
		for b := range 256 {
			seen[reads(t, good[:i]+string([]byte{byte(b)})+good[i:])]++
			if i < len(good) {
				seen[reads(t, good[:i]+string([]byte{byte(b)})+good[i+1:])]++
			}
		}
		for j := i; j <= len(good); j++ {
			seen[reads(t, good[:i]+good[j:])]++
			seen[reads(t, good[:j]+good[i:])]++
		}
	}
	if len(seen) != 3 || slices.Min([]int{seen[0], seen[api.ErrForm], seen[api.ErrRule]}) < 100 {
		t.Errorf("texts of each kind: %v", seen)
	}
}

// RE2: heads of parts by chance.
func TestParseAnyHead(t *testing.T) {
	c := chance.Chance(3)
	others := []string{"x", "y", "rule", "=", ",", "0", "1", "01", "274877906944", "274877906945", "B3/S23", "B/S", "B0/S", "-1", "#", "", " ", "\n", "b3/s23", "!", "rule = B3/S23"}
	gaps := []string{"", "", "", " ", " ", "\t", "\r", "  ", "\n", "\v"}
	seen := map[api.Errno]int{}
	for range 60000 {
		parts := headParts()
		for range c.Below(3) {
			parts[c.Below(len(parts))] = others[c.Below(len(others))]
		}
		var s strings.Builder
		for range c.Below(3) {
			s.WriteString("#a\n")
		}
		kinds := 1 + c.Below(len(gaps))
		for _, part := range parts {
			s.WriteString(gaps[c.Below(kinds)] + part)
		}
		seen[reads(t, s.String()+"\no!")]++
	}
	if len(seen) != 3 || slices.Min([]int{seen[0], seen[api.ErrForm], seen[api.ErrRule]}) < 1000 {
		t.Errorf("heads of each kind: %v", seen)
	}
}
