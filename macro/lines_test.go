package macro

import (
	"slices"
	"strconv"
	"strings"
	"testing"

	"quilt/api"
	"quilt/chance"
	"quilt/tile"
)

// ahead are good lines: 1 and 2 of level 3, 3 and 4 of level 4, 5 of level 5.
const ahead = "*$\n.*$\n4 1 2 0 0\n4 2 0 0 1\n5 3 0 4 0\n"

// wrongAnywhere asks that a line is told wherever it stands.
func wrongAnywhere(t *testing.T, line string) {
	t.Helper()
	for _, before := range []string{heading, heading + "*$\n", heading + block, heading + ahead} {
		for _, behind := range []string{"", block, "4 0 0 0 0\n", "4 1 0 0 0\n", "x\n", "\n"} {
			parsesNot(t, before+line+"\n"+behind, len(before), api.ErrForm)
		}
		if line != "" { // else it is not there
			parsesNot(t, before+line, len(before), api.ErrForm)
		}
	}
}

// MA2: texts without a line of four: at the text's end, if there is no line of a square.
func TestParseNoFour(t *testing.T) {
	parsesNot(t, heading, len(heading), api.ErrForm)
	parsesNot(t, "[M2]\n#R B/S\n", 12, api.ErrForm)
	parsesNot(t, "[M2]\n#R b12345678/s012345678\n", 29, api.ErrForm)
	parsesNot(t, heading+"*$\n", len(heading), api.ErrForm)
	parsesNot(t, heading+"*$\n.*$\n", len(heading)+3, api.ErrForm)
	parsesNot(t, heading+"*$\n.*$\n*$\n", len(heading)+7, api.ErrForm)
}

// MA2: a tile's line that is the last one: nothing is made of it, also where all else is good.
func TestParseTileLast(t *testing.T) {
	for _, before := range []string{"", "*$\n", block, block + "5 2 0 0 0\n", ahead} {
		for _, line := range []string{"*$\n", "**$**$\n", strings.Repeat("********$", 8) + "\n", "$$$$$$$.......*$\n"} {
			parsesNot(t, heading+before+line, len(heading+before), api.ErrForm)
		}
	}
	wide(t).parses(heading+block+"*$\n4 3 0 0 0\n", life, drawn(4, "#"))
}

// MA2: a line without its end, which can be the last one alone.
func TestParseNoEnd(t *testing.T) {
	good := heading + ahead
	for i := 1; i < len(good); i++ {
		if good[i-1] != '\n' {
			begin := strings.LastIndex(good[:i], "\n") + 1
			parsesNot(t, good[:i], begin, api.ErrForm)
		}
	}
}

// MA2: lines behind the last one of four that are no lines of squares; blanks and notes among them.
func TestParseBehindTheEnd(t *testing.T) {
	good := heading + ahead
	for _, behind := range []string{"\n", "\n\n", " ", " \n", "\r\n", "\r", "\t", "#C a\n", "#R B3/S23\n", "[M2]\n", "!\n", "x", "x\n", "\x00", "\xff\n", "*$\n", "*$", "5\n", "5", "5 1 0 0 0\n", "6 5 0 0 0", "0\n", heading + block} {
		parsesNot(t, good+behind, len(good), api.ErrForm)
	}
	parsesNot(t, good+"6 5 0 0 0\n\n", len(good)+10, api.ErrForm)
	// The last line is the whole, be it one that another has, one that is there already, or one of a lower level.
	wide(t).parses(good+"4 1 0 0 0\n", life, drawn(4, "#"))
	wide(t).parses(good+"4 1 2 0 0\n", life, drawn(4, "#........#"))
	wide(t).parses(good+"6 0 0 0 5\n"+"7 0 0 0 0\n", life, drawn(7, ""))
}

// MA2: a tile's lines that have their form.
func TestParseTiles(t *testing.T) {
	full := strings.Repeat("********$", 8)
	for _, k := range []struct {
		line string
		want tile.Tile
	}{
		{"*$", 1}, {".*$", 2}, {".......*$", 128}, {"********$", 255}, {"$*$", 1 << 8}, {"$$$$$$$*$", 1 << 56}, {"$$$$$$$.......*$", 1 << 63}, {full, allLive}, {"*$*$", 0x101}, {"*$$*$", 0x10001}, {"$.*$$..*$", 0x04000200},
		{"*......*$$$$$$$*......*$", 0x8100000000000081}, {"*.*.*.*$.*.*.*.*$", 0xaa55}, {strings.Repeat("*$", 8), 0x0101010101010101},
	} {
		wide(t).parses(heading+k.line+"\n4 1 0 0 0\n", life, ofFour(ofTile(k.want), ofTile(0), ofTile(0), ofTile(0)))
		wide(t).parses(heading+"***$\n"+k.line+"\n4 1 2 0 2\n", life, ofFour(ofTile(7), ofTile(k.want), ofTile(0), ofTile(k.want)))
	}
}

// MA2: a tile's lines without their form.
func TestParseWrongTiles(t *testing.T) {
	full := strings.Repeat("********$", 8)
	for _, line := range []string{
		"", "$", "$$", "$$$$$$$$", strings.Repeat("$", 100), // no row, or none with a cell
		strings.Repeat("*$", 9), "$$$$$$$$*$", full + "*$", full + full, strings.Repeat("$", 63) + "*$", // nine rows and more
		strings.Repeat("*$", 8) + "$", full + "$", "$$$$$$$*$$", // eight, and a sign more
		"*********$", "........*$", ".........*$", "*........$", "*$*********$", "*$........*$*$", full[:63] + "*********$", strings.Repeat("*", 64) + "$", // rows that are too long
		".$", "*.$", "........$", "*$.$", "*.$*$", ".$*$", "*$*.$", "*$.$*$", "*$*.$*$", "*.......$*$", "*$$.$", // rows that end in a point
		"*$$", "*$$$", ".*$$", "**$**$$", "*$$$$$$$", // no cell in the last row
		"*", "**", ".", "*$*", "*$.", "*$**$**", "$*", "*$.*", full[:len(full)-1], "$$$$$$$*", // the last row without its end
		"*$ ", " *$", "* *$", "*$ *$", "*$\t", "*$\r", "\r*$", "\v*$", "*$\x00", "*\x00$", "\xff*$", "*$*\xff$", "o$", "O$", "*o$", "bo$", "A$", "1$", "*1$", "*2$", "*,$", "*;$", "#$", "*#$", "*$#", "*$!", "*!$", "x", "\\*$", "+$", "-*$", "_*$", "\u2217$", "\u22c6*$", ".\u00b7*$", "*$$*$ 4", "*$4 1 0 0 0", "4 1 0 0 0*$", "#C a", "#", "[M2]", "#R B3/S23",
	} {
		wrongAnywhere(t, line)
	}
}

// MA2: each byte that is none of a tile's three, at each place of its line.
func TestParseTileBytes(t *testing.T) {
	const good = ".*$$*.*$"
	for i := range len(good) + 1 {
		for b := range 256 {
			c := string([]byte{byte(b)})
			for _, line := range []string{good[:i] + c + good[i:], good[:i] + c + good[min(i+1, len(good)):]} {
				_, _, at, number := wide(t).reads(heading + "***$\n" + line + "\n4 1 2 0 0\n")
				if !strings.Contains("*.$\n", c) && (at != len(heading)+5 || number != api.ErrForm) {
					t.Fatalf("%q: %v at %d", line, number, at)
				}
			}
		}
	}
}

// MA2: all lines of up to seven of a tile's signs, and one that can't stand there; and those of rows of each length, of each number of rows.
func TestParseAllTiles(t *testing.T) {
	const signs = "*.$x"
	for length := range 8 {
		for n := range 1 << (2 * length) {
			line := ""
			for i := range length {
				line += signs[n>>(2*i)&3:][:1]
			}
			wide(t).reads(heading + line + "\n4 1 1 1 1\n")
		}
	}
	for rows := range 12 {
		for length := range 12 {
			for _, last := range []string{"", ".", "*"} {
				for _, sign := range []string{".", "*"} {
					row := strings.Repeat(sign, length) + last + "$"
					wide(t).reads(heading + strings.Repeat(row, rows) + "\n4 1 1 1 1\n")
					wide(t).reads(heading + strings.Repeat("$", rows) + row + "\n4 1 1 1 1\n")
					wide(t).reads(heading + row + strings.Repeat("$", rows) + "*$\n4 1 1 1 1\n")
				}
			}
		}
	}
}

// MA2: a line of four with 0 at each of its places, at several, and at all; the others of one line, and of several.
func TestParseFours(t *testing.T) {
	for bits := range 16 {
		one, other := "4", "4"
		var oneQ, otherQ [4]content
		for i := range 4 {
			oneQ[i], otherQ[i] = ofTile(0), ofTile(0)
			if bits>>i&1 == 0 {
				one, other = one+" 0", other+" 0"
				continue
			}
			one, oneQ[i] = one+" 2", ofTile(2)
			other, otherQ[i] = other+" "+strconv.Itoa(i+1), ofTile(1<<i)
		}
		tiles := "*$\n.*$\n..*$\n...*$\n"
		wide(t).parses(heading+tiles+one+"\n", life, ofFour(oneQ[:]...))
		wide(t).parses(heading+tiles+other+"\n", life, ofFour(otherQ[:]...))
		wide(t).parses(heading+tiles+other+"\n"+"5 5 0 0 5\n", life, ofFour(ofFour(otherQ[:]...), content{level: 4}, content{level: 4}, ofFour(otherQ[:]...)))
	}
	// One in which none lives may have its line, and the same square several.
	wide(t).parses(heading+"4 0 0 0 0\n*$\n4 2 0 0 0\n5 1 3 1 0\n", life, drawn(5, "................#"))
	wide(t).parses(heading+"*$\n*$\n4 1 0 0 0\n4 2 0 0 0\n4 1 0 0 2\n5 3 4 3 4\n5 4 3 4 3\n6 6 7 0 0\n", life, ofFour(quadrupled(), quadrupled(), content{level: 5}, content{level: 5}))
}

// quadrupled is a cell in each of four.
func quadrupled() content {
	q := drawn(4, "#")
	return ofFour(q, q, q, q)
}

// MA2: lines of four at each level, from 4 to 40; and none of other levels.
func TestParseLevels(t *testing.T) {
	text := heading + "*$\n"
	for level := 4; level <= 40; level++ {
		text += numbered(level, level%4, level-3)
		s := wide(t)
		if _, id, _, number := s.reads(text); number != 0 || must(t)(s.Level(id)) != level {
			t.Fatalf("%s: %v", text, number)
		}
		wide(t).parses(heading+strconv.Itoa(level)+" 0 0 0 0\n", life, content{level: level})
	}
	parsesNot(t, text+"41 38 0 0 0\n", len(text), api.ErrForm)
	parsesNot(t, text+"41 0 0 0 0\n", len(text), api.ErrForm)
	for _, level := range []string{"0", "1", "2", "3", "41", "42", "44", "100", "260", "400", "65540", "4294967300", "9223372036854775807", "9223372036854775808", "18446744073709551615", "18446744073709551620", "340282366920938463463374607431768211460", strings.Repeat("4", 30000)} {
		wrongAnywhere(t, level+" 0 0 0 0")
		wrongAnywhere(t, level+" 1 0 0 0")
		wrongAnywhere(t, level+" 1 1 1 1")
	}
}

// MA2: lines of four with too few and too many numbers, with other blanks, with what is no number.
func TestParseWrongFours(t *testing.T) {
	for _, line := range []string{
		"4", "4 0", "4 0 0", "4 0 0 0", "4 0 0 0 0 0", "4 0 0 0 0 0 0", strings.Repeat("4 ", 1000) + "4", "0", "0 0 0 0", " ", "    ", "     ",
		" 4 0 0 0 0", "4 0 0 0 0 ", "  4 0 0 0 0", "4 0 0 0 0  ", "4  0 0 0 0", "4 0  0 0 0", "4 0 0  0 0", "4 0 0 0  0", "4  0 0 0", "4 0 0 0 ", " 4 0 0 0", "4   0", "4\t0 0 0 0", "4 0\t0 0 0", "4 0 0 0\t0", "4\t0\t0\t0\t0", "\t4 0 0 0 0", "4 0 0 0 0\t", "4 0 0 0 0\r", "\r4 0 0 0 0", "4\r0 0 0 0", "4\v0 0 0 0", "4\u00a00 0 0 0", "4 0 0 0 0\x00", "4 0 0 0 0\xff", "40000",
		"04 0 0 0 0", "004 0 0 0 0", "4 00 0 0 0", "4 0 00 0 0", "4 0 0 00 0", "4 0 0 0 00", "4 01 0 0 0", "4 0 0 0 01", "4 0 0 0 000000000000000000000000000000", "4 0 0 0 0000000000000000000001",
		"-4 0 0 0 0", "+4 0 0 0 0", "4 -0 0 0 0", "4 +0 0 0 0", "4 0 0 0 -1", "4 -1 0 0 0", "4 +1 0 0 0", "4 0 -9223372036854775808 0 0", "4 0 0 0 -18446744073709551615", "4. 0 0 0 0", "4.0 0 0 0 0", "4 0. 0 0 0", "4 .0 0 0 0", "4e0 0 0 0 0", "0x4 0 0 0 0", "4 0x0 0 0 0", "4 0_0 0 0 0", "1_0 0 0 0 0", "4 0 0 a 0", "a 0 0 0 0", "4 0 0 0 x", "4, 0, 0, 0, 0", "4,0,0,0,0", "4 0 0 0 0;", "4 0 0 0 0!", "4 0 0 0 0 #", "#4 0 0 0 0", "K A B C D", "4 nil 0 0 0", "\u0664 0 0 0 0", "4 \u0660 0 0 0", "4 \uff10 0 0 0", "4 * 0 0 0", "* 0 0 0 0", "4 $ 0 0 0",
	} {
		wrongAnywhere(t, line)
	}
}

// MA2: numbers of lines that are not ahead: a line's own, later ones, such as come round to one that is.
func TestParseNotAhead(t *testing.T) {
	for _, n := range []string{"6", "7", "8", "10", "65537", "65542", "4294967297", "4294967302", "9223372036854775807", "9223372036854775808", "9223372036854775809", "18446744073709551615", "18446744073709551616", "18446744073709551617", "18446744073709551621", "340282366920938463463374607431768211457", strings.Repeat("1", 10000), "1" + strings.Repeat("0", 20000)} {
		for i := range 4 {
			for _, level := range []string{"4", "5", "6"} {
				k := [4]string{"0", "0", "0", "0"}
				k[i] = n
				line := level + " " + strings.Join(k[:], " ") + "\n"
				parsesNot(t, heading+ahead+line, len(heading+ahead), api.ErrForm)
				parsesNot(t, heading+ahead+line+"5 0 0 0 0\n6 0 0 0 0\n", len(heading+ahead), api.ErrForm)
			}
		}
	}
	parsesNot(t, heading+"4 1 0 0 0\n", len(heading), api.ErrForm)
	parsesNot(t, heading+"4 2 0 0 0\n*$\n", len(heading), api.ErrForm)
	parsesNot(t, heading+"*$\n4 1 0 0 2\n", len(heading)+3, api.ErrForm)
	parsesNot(t, heading+"*$\n4 1 0 3 0\n.*$\n4 1 0 0 0\n", len(heading)+3, api.ErrForm)
}

// MA2: numbers of lines of another level than the one below: each level with each line.
func TestParseOtherLevel(t *testing.T) {
	levels := []int{3, 3, 4, 4, 5} // of the lines ahead
	for level := 4; level <= 40; level++ {
		for n, its := range levels {
			for i := range 4 {
				text := heading + ahead + numbered(level, i, n+1)
				if its == level-1 {
					if _, _, _, number := wide(t).reads(text); number != 0 {
						t.Errorf("%s: %v", text, number)
					}
				} else {
					parsesNot(t, text, len(heading+ahead), api.ErrForm)
				}
			}
		}
	}
	for _, line := range []string{"4 1 2 1 3", "4 3 1 1 1", "5 3 4 3 1", "5 1 3 3 3", "5 3 3 5 3", "6 5 5 5 4", "6 5 3 0 0", "4 1 1 5 1"} {
		wrongLine := heading + ahead + line + "\n"
		parsesNot(t, wrongLine, len(heading+ahead), api.ErrForm)
	}
	// Of an empty square's line, too: its level counts, not its cells.
	parsesNot(t, heading+"4 0 0 0 0\n6 1 0 0 0\n", len(heading)+10, api.ErrForm)
	parsesNot(t, heading+"5 0 0 0 0\n5 1 0 0 0\n", len(heading)+10, api.ErrForm)
	parsesNot(t, heading+"6 0 0 0 0\n5 1 0 0 0\n", len(heading)+10, api.ErrForm)
}

// MA2: the first line that is wrong is told, whatever the others are.
func TestParseFirstWrong(t *testing.T) {
	wrong := []string{"", "$", "*", "4 0 0 0", "5 1 0 0 0", "3 0 0 0 0", "x"}
	for _, first := range wrong {
		for _, second := range wrong {
			parsesNot(t, heading+"*$\n"+first+"\n"+second+"\n4 1 0 0 0\n", len(heading)+3, api.ErrForm)
			parsesNot(t, heading+"*$\n4 1 0 0 0\n"+first+"\n"+block+second+"\n", len(heading)+13, api.ErrForm)
			parsesNot(t, "[M2]\n#R B0/S\n"+first+"\n"+second, 5, api.ErrRule)
			parsesNot(t, "[M2] \n#R B0/S\n"+first+"\n"+second, 0, api.ErrForm)
		}
	}
}

// MA2: each byte at each place of a good text, in place of another one or between, each cut, each part twice or left out.
func TestParseEachByte(t *testing.T) {
	const good = "[M2]\n#R B3/S23\n*$\n.*$$*$\n4 1 0 2 0\n5 3 0 0 3\n"
	seen := map[api.Errno]int{}
	read := func(text string) {
		_, _, _, number := wide(t).reads(text)
		seen[number]++
	}
	for i := range len(good) + 1 {
		read(good[:i])
		read(good[i:])
		for b := range 256 {
			c := string([]byte{byte(b)})
			read(good[:i] + c + good[i:])
			read(good[:i] + c + good[min(i+1, len(good)):])
		}
		for j := i; j <= len(good); j++ {
			read(good[:i] + good[j:])
			read(good[:j] + good[i:])
		}
	}
	if len(seen) != 3 || slices.Min([]int{seen[0], seen[api.ErrForm], seen[api.ErrRule]}) < 10 {
		t.Errorf("texts of each kind: %v", seen)
	}
}

// anyLine is one behind others of which the levels are told, mostly one that has its form; and its level.
func anyLine(c *chance.Chance, levels []int) (string, int) {
	if len(levels) == 0 || c.Below(3) == 0 {
		lines := []string{"*$", ".*$", "$$*$", "**$**$", "********$", "*$$$*$", "..*$*$", "$", "*", "*.$", ""}
		return lines[c.Below(1+c.Below(len(lines)))], 3
	}
	level := 1 + levels[c.Below(len(levels))]
	if c.Below(20) == 0 {
		level = c.Below(44)
	}
	line := strconv.Itoa(level)
	for range 4 {
		n := c.Below(len(levels) + 1)
		if n > 0 && levels[n-1] != level-1 && c.Below(30) > 0 {
			n = 0
		}
		if c.Below(60) == 0 {
			n = c.Below(len(levels) + 3)
		}
		line += " " + strconv.Itoa(n)
	}
	return line, level
}

// MA2: lines of all kinds by chance, in stores that have other squares, and room or not.
func TestParseAny(t *testing.T) {
	c := chance.Chance(4)
	seen := map[api.Errno]int{}
	long := 0
	for range 8000 {
		s := storeOf(t, 1+c.Below(60))
		for range c.Below(s.room + 1) {
			s.leaf(anyTile(&c))
		}
		text := heading
		var levels []int
		for range 1 + c.Below(12) {
			line, level := anyLine(&c, levels)
			text, levels = text+line+"\n", append(levels, level)
		}
		_, _, _, number := s.reads(text)
		seen[number]++
		if number == 0 && len(levels) > 5 {
			long++
		}
	}
	if len(seen) != 3 || slices.Min([]int{seen[0], seen[api.ErrForm], seen[api.ErrLimit], long}) < 500 {
		t.Errorf("texts of each kind: %v, and %d of many lines", seen, long)
	}
}
