package rle

import (
	"slices"
	"strconv"
	"strings"
	"testing"

	"quilt/api"
	"quilt/chance"
)

// heads are some ahead of runs, so that the same runs stand at other places.
func heads() []string {
	return []string{headOfNone, "x=0,y=0,rule=B3/S23\n", "#a\n#b\n" + headOfNone}
}

// runsAre asks for the cells of runs.
func runsAre(t *testing.T, runs string, want []api.Cell) {
	t.Helper()
	for _, head := range heads() {
		parses(t, head+runs, life, want)
	}
}

// runsNot asks for an error at a byte of the runs.
func runsNot(t *testing.T, runs string, at int, want api.Errno) {
	t.Helper()
	for _, head := range heads() {
		parsesNot(t, head+runs, len(head)+at, want)
	}
}

// cellsAt are cells by their X and Y, one behind the other.
func cellsAt(l ...int) []api.Cell {
	var all []api.Cell
	for i := 0; i < len(l); i += 2 {
		all = append(all, api.Cell{X: l[i], Y: l[i+1]})
	}
	return all
}

// RE2: runs whose cells the chapter's words tell at sight.
func TestParseRunsKnown(t *testing.T) {
	for _, k := range []struct {
		runs string
		want []api.Cell
	}{
		{"!", nil}, {"b!", nil}, {"$!", nil}, {"10b20$30b!", nil},
		{"o!", cellsAt(0, 0)}, {"1o!", cellsAt(0, 0)}, {"2o!", cellsAt(0, 0, 1, 0)}, {"oo!", cellsAt(0, 0, 1, 0)}, {"1o1o!", cellsAt(0, 0, 1, 0)},
		{"bo!", cellsAt(1, 0)}, {"bbo!", cellsAt(2, 0)}, {"2bo!", cellsAt(2, 0)}, {"b2bo!", cellsAt(3, 0)}, {"1bo!", cellsAt(1, 0)}, {"1$o!", cellsAt(0, 1)},
		{"9bo!", cellsAt(9, 0)}, {"10bo!", cellsAt(10, 0)}, {"11bo!", cellsAt(11, 0)}, {"100bo!", cellsAt(100, 0)},
		{"$o!", cellsAt(0, 1)}, {"$$o!", cellsAt(0, 2)}, {"2$o!", cellsAt(0, 2)}, {"$2$o!", cellsAt(0, 3)}, {"10$o!", cellsAt(0, 10)},
		{"o$o!", cellsAt(0, 0, 0, 1)}, {"5bo$o!", cellsAt(5, 0, 0, 1)}, {"5b$o!", cellsAt(0, 1)}, {"obo$3b2o!", cellsAt(0, 0, 2, 0, 3, 1, 4, 1)},
		{"o3b!", cellsAt(0, 0)}, {"o3b$o3b$!", cellsAt(0, 0, 0, 1)}, {"o$!", cellsAt(0, 0)}, {"o5$!", cellsAt(0, 0)}, {"3$o2$bo3$!", cellsAt(0, 3, 1, 5)},
		{"b$b$bo!", cellsAt(1, 2)}, {"12o!", cellsAt(0, 0, 1, 0, 2, 0, 3, 0, 4, 0, 5, 0, 6, 0, 7, 0, 8, 0, 9, 0, 10, 0, 11, 0)},
		{"20bo102$2b3o!", cellsAt(20, 0, 2, 102, 3, 102, 4, 102)},
	} {
		runsAre(t, k.runs, k.want)
	}
}

// RE2: blanks and line ends between runs, at both ends too, as many as there are.
func TestParseRunsBlanks(t *testing.T) {
	runs := []string{"2b", "o", "b", "3o", "$", "10$", "o", "!"}
	want := cellsAt(2, 0, 4, 0, 5, 0, 6, 0, 0, 11)
	runsAre(t, strings.Join(runs, ""), want)
	for _, blanks := range []string{" ", "\t", "\r", "\n", "\r\n", " \n\n\t ", "\n\n\n", strings.Repeat(" ", 500)} {
		runsAre(t, strings.Join(runs, blanks), want)
		runsAre(t, blanks+strings.Join(runs, ""), want)
		runsAre(t, strings.Join(runs, "")+blanks, want)
		for i := range runs {
			ahead, behind := strings.Join(runs[:i], ""), strings.Join(runs[i:], "")
			runsAre(t, ahead+blanks+behind, want)
			for _, other := range []string{"\v", "\f", "\x00", "\u00a0", "\u0085", "\u2028"} {
				runsNot(t, ahead+blanks+other+blanks+behind, len(ahead+blanks), api.ErrForm)
				runsNot(t, ahead+other+behind, len(ahead), api.ErrForm)
			}
		}
	}
}

// RE2: a blank between a number and its tag, or within a number, can't stand there.
func TestParseRunsBrokenNumber(t *testing.T) {
	for _, blank := range []string{" ", "\t", "\r", "\n", "  ", "\r\n"} {
		for _, tag := range []string{"b", "o", "$"} {
			for _, n := range []string{"1", "3", "10", "274877906944", "274877906945", "99999999999999999999"} {
				runsNot(t, n+blank+tag+"!", len(n), api.ErrForm)
				runsNot(t, "bo$"+blank+n+blank+tag+"!", 3+len(blank+n), api.ErrForm)
				runsNot(t, "bo"+n+blank+"1"+tag+"!", 2+len(n), api.ErrForm)
			}
		}
	}
}

// RE2: bytes that can't stand there, wherever they are; ahead of a run, behind a number, ahead of the end.
func TestParseRunsWrongByte(t *testing.T) {
	for b := range 256 {
		if strings.IndexByte("bo$! \t\r\n123456789", byte(b)) >= 0 {
			continue
		}
		other := string([]byte{byte(b)})
		for _, ahead := range []string{"", "b", "o", "$", "2bo$ 3o", "bo$\n", "$ "} {
			for _, behind := range []string{"", "!", "o!", "b", " !", "\n"} {
				runsNot(t, ahead+other+behind, len(ahead), api.ErrForm)
				if b != '0' {
					runsNot(t, ahead+"5"+other+behind, len(ahead)+1, api.ErrForm)
					runsNot(t, ahead+"274877906999"+other+behind, len(ahead)+12, api.ErrForm)
				}
			}
		}
	}
	for _, runs := range []string{"B!", "O!", "x!", "-1b!", "+1o!", "#", ".", "*", "A!", "\u00e9", "\U0001F600"} {
		runsNot(t, runs, 0, api.ErrForm)
		runsNot(t, "3o"+runs, 2, api.ErrForm)
	}
}

// RE2: numbers that are 0, or have a needless nought: at their begin, whatever follows.
func TestParseRunsNought(t *testing.T) {
	for _, n := range []string{"0", "00", "01", "007", "010", "0274877906945", "000000000000000000000000", "0" + strings.Repeat("9", 1000)} {
		for _, ahead := range []string{"", "b", "3o$", " ", "12b\n"} {
			for _, behind := range []string{"b!", "o!", "$!", "!", "", " ", "x", " b!"} {
				runsNot(t, ahead+n+behind, len(ahead), api.ErrForm)
			}
		}
	}
	runsAre(t, "10b20o100$o!", append(moved(wall(20), 10, 0), cellsAt(0, 100)...))
}

// RE2: numbers that no tag follows.
func TestParseRunsNoTag(t *testing.T) {
	for _, n := range []string{"1", "2", "10", "99", "274877906944", "274877906945", "99999999999999999999"} {
		for _, ahead := range []string{"", "bo$", " "} {
			runsNot(t, ahead+n, len(ahead+n), api.ErrForm)
			runsNot(t, ahead+n+"!", len(ahead+n), api.ErrForm)
			runsNot(t, ahead+n+"!o!", len(ahead+n), api.ErrForm)
			runsNot(t, ahead+n+"\n", len(ahead+n), api.ErrForm)
			runsNot(t, ahead+n+"\n!", len(ahead+n), api.ErrForm)
		}
	}
}

// RE2: runs that have no end, at the text's end.
func TestParseRunsNoEnd(t *testing.T) {
	for _, runs := range []string{"", "b", "o", "$", "3o", "bo$2bo$3o", " ", "\n", "3o\n", "3o \t\r\n", "$$", "4096o"} {
		runsNot(t, runs, len(runs), api.ErrForm)
	}
}

// RE2: what stands behind the end does not matter.
func TestParseRunsBehind(t *testing.T) {
	for _, behind := range []string{"", "\n", " ", "!", "o", "0", "x", "o!", "3", "\x00\xff", "5000o", "274877906945b", "\n#a\n" + headOfNone + "0!", strings.Repeat("o", 5000)} {
		runsAre(t, "bo!"+behind, cellsAt(1, 0))
		runsAre(t, "!"+behind, nil)
	}
}

// RE2: numbers of just 2^38, and of more, of any length.
func TestParseRunsNumber(t *testing.T) {
	above := []string{"274877906945", "274877906946", "274877907000", "300000000000", "999999999999", "1000000000000", "1099511627776", "4398046511104",
		"4611686018427387904", "9223372036854775807", "9223372036854775808", "18446744073709551615", "18446744073709551616", "18446744073709551617", "36893488147419103233",
		"27487790694400000000000000000000000000", "340282366920938463463374607431768211457", strings.Repeat("1", 100), strings.Repeat("9", 60000), "1" + strings.Repeat("0", 64), "1" + strings.Repeat("0", 300)}
	for _, tag := range []string{"b", "$"} {
		runsAre(t, "274877906943"+tag+"!", nil)
		runsAre(t, "274877906944"+tag+"!", nil)
	}
	for _, tag := range []string{"b", "o", "$"} {
		for _, n := range above {
			runsNot(t, n+tag+"!", 0, api.ErrLimit)
			runsNot(t, "2o$ "+n+tag+"!", 4, api.ErrLimit)
			runsNot(t, n+tag, 0, api.ErrLimit)
			// A run that is none is told as one that has no form.
			runsNot(t, n+"x", len(n), api.ErrForm)
		}
	}
	runsNot(t, "274877906944o!", 0, api.ErrLimit)
}

// RE2: just as many cells as there may be, and one more, in one run, in two, in many rows.
func TestParseRunsCells(t *testing.T) {
	row := make([]api.Cell, 4096)
	for i := range row {
		row[i].X = i
	}
	runsAre(t, "4096o!", row)
	runsAre(t, "4096o2b3$!", row)
	runsAre(t, "4095oo!", row)
	runsAre(t, "o4095o!", row)
	runsAre(t, strings.Repeat("o", 4096)+"!o", row)
	runsAre(t, strings.Repeat("64o$", 64)+"!", wall(4096))
	runsAre(t, strings.Repeat("64o$\n", 64)+"100b!", wall(4096))
	for _, k := range []struct {
		runs string
		at   int
	}{
		{"4097o!", 0}, {"4098o!", 0}, {"5000o", 0}, {"65536o!", 0}, {"4294967297o!", 0}, {"274877906944o!", 0},
		{"4096oo!", 5}, {"4096o1o!", 5}, {"4096o2o!", 5}, {"4095o2o!", 5}, {"o4096o!", 1}, {"2048o$2049o!", 6}, {"4096o$o!", 6}, {"4096o 5$ 5b o!", 12}, {"o274877906943o!", 1}, {"o274877906944o!", 1},
		{strings.Repeat("o", 4097) + "!", 4096}, {strings.Repeat("o", 4097), 4096}, {strings.Repeat("64o$", 64) + "o!", 256}, {strings.Repeat("64o$", 63) + "65o!", 252},
		{"4096oo0", 5}, {"4096oox!", 5}, {"4097ox!", 0},
	} {
		runsNot(t, k.runs, k.at, api.ErrLimit)
	}
}

// RE2: X of just 2^38 + 1, behind the last cell that may be; and one more.
func TestParseRunsFarRight(t *testing.T) {
	runsAre(t, "274877906944bo!", cellsAt(far, 0))
	runsAre(t, "b274877906943bo!", cellsAt(far, 0))
	runsAre(t, "274877906943b2o!", cellsAt(far-1, 0, far, 0))
	runsAre(t, "274877906943boo$b!", cellsAt(far-1, 0, far, 0))
	runsAre(t, "o274877906943bo!", cellsAt(0, 0, far, 0))
	runsAre(t, "274877906944bb!", nil)
	runsAre(t, "b274877906944b$o!", cellsAt(0, 1))
	runsAre(t, "o274877906944b$o274877906943bo!", cellsAt(0, 0, 0, 1, far, 1))
	runsAre(t, "274877906940b5o$274877906944bo!", cellsAt(far-4, 0, far-3, 0, far-2, 0, far-1, 0, far, 0, far, 1))
	for _, k := range []struct {
		runs string
		at   int
	}{
		{"274877906944boo!", 14}, {"274877906944bob!", 14}, {"274877906944b2o!", 13}, {"274877906944bbb!", 14}, {"274877906944bbo!", 14}, {"274877906944b2b!", 13}, {"274877906944b2b", 13},
		{"274877906943b3o!", 13}, {"274877906943b2oo!", 15}, {"274877906943b2ob!", 15}, {"2b274877906944b!", 2}, {"274877906944b274877906944b!", 13}, {"o274877906944bo!", 14},
		{"$274877906944b 3b!", 15}, {"274877906944bo\nb!", 15}, {"274877906944bb10o!", 14}, {"274877906944b4096o!", 13}, {"200000000000b100000000000b!", 13}, {"274877906944boo", 14}, {"274877906944boo0", 14},
	} {
		runsNot(t, k.runs, k.at, api.ErrLimit)
	}
}

// RE2: Y of just 2^38, and one more.
func TestParseRunsFarDown(t *testing.T) {
	runsAre(t, "274877906944$!", nil)
	runsAre(t, "274877906944$o!", cellsAt(0, far))
	runsAre(t, "$274877906943$o!", cellsAt(0, far))
	runsAre(t, "o274877906943$$3o!", cellsAt(0, 0, 0, far, 1, far, 2, far))
	runsAre(t, "274877906944$274877906944bo!", cellsAt(far, far))
	runsAre(t, "274877906944b274877906944$o!", cellsAt(0, far))
	for _, k := range []struct {
		runs string
		at   int
	}{
		{"274877906944$$!", 13}, {"274877906944$o$!", 14}, {"274877906944$2$!", 13}, {"$274877906944$!", 1}, {"o$ 274877906944$!", 3}, {"274877906944$274877906944$!", 13},
		{"274877906943$2$!", 13}, {"200000000000$100000000000$!", 13}, {"274877906944$274877906944bo$!", 27}, {"274877906944$$", 13}, {"274877906944$$0!", 13},
	} {
		runsNot(t, k.runs, k.at, api.ErrLimit)
	}
}

// RE2: of faults in several runs the first one is told; within one its form, and then its limits.
func TestParseRunsFirst(t *testing.T) {
	for _, k := range []struct {
		runs string
		at   int
		want api.Errno
	}{
		{"0b274877906945b!", 0, api.ErrForm}, {"274877906945b0b!", 0, api.ErrLimit}, {"x4097o!", 0, api.ErrForm}, {"4097ox!", 0, api.ErrLimit}, {"4097x!", 4, api.ErrForm},
		{"274877906945 b!", 12, api.ErrForm}, {"0274877906945b!", 0, api.ErrForm}, {"bo$4097o", 3, api.ErrLimit}, {"4096o3", 6, api.ErrForm}, {"4096o3x", 6, api.ErrForm}, {"4096o3o", 5, api.ErrLimit},
		{"274877906944b5", 14, api.ErrForm}, {"274877906944b5!", 14, api.ErrForm}, {"274877906944b5b", 13, api.ErrLimit},
	} {
		runsNot(t, k.runs, k.at, k.want)
	}
}

// RE2: all texts of up to five signs, behind a head.
func TestParseAllShort(t *testing.T) {
	signs := "bo$!0 12\nx"
	seen := map[api.Errno]int{}
	for length := range 6 {
		count := 1
		for range length {
			count *= len(signs)
		}
		for i := range count {
			runs := make([]byte, length)
			for j := range runs {
				runs[j] = signs[i%len(signs)]
				i /= len(signs)
			}
			seen[reads(t, headOfNone+string(runs))]++
		}
	}
	if len(seen) != 2 || min(seen[0], seen[api.ErrForm]) < 1000 {
		t.Errorf("texts of each kind: %v", seen)
	}
}

// anyRuns are some by chance: most have their form, some are far, many, or wrong.
func anyRuns(c *chance.Chance) string {
	var s strings.Builder
	kinds := 3 + c.Below(12)*c.Below(2)
	for range c.Below(40) {
		s.WriteString([]string{"", "", " ", "\n", "\t\r"}[c.Below(5)])
		switch c.Below(kinds) {
		case 0:
		case 1, 2:
			s.WriteString(strconv.Itoa(1 + c.Below(30)))
		case 3, 4, 5:
			s.WriteString(strconv.Itoa(1 + c.Below(1<<c.Below(14))))
		case 6:
			s.WriteString([]string{"274877906900", "274877906943", "274877906944", "137438953472", "100000000000"}[c.Below(5)])
		case 7:
			if c.Below(10) == 0 {
				s.WriteString([]string{"0", "01", "274877906945", "99999999999999999999", "x", "3 ", "3!"}[c.Below(7)])
			}
		}
		s.WriteString([]string{"b", "o", "$"}[c.Below(3)])
	}
	return s.String() + []string{"!", "!", "!", "!\n", " !o", "\n!", "", " ", "3", "3!"}[c.Below(10)]
}

// RE2: runs by chance.
func TestParseAnyRuns(t *testing.T) {
	c := chance.Chance(4)
	seen := map[api.Errno]int{}
	for range 30000 {
		seen[reads(t, heads()[c.Below(3)]+anyRuns(&c))]++
	}
	if len(seen) != 3 || slices.Min([]int{seen[0], seen[api.ErrForm], seen[api.ErrLimit]}) < 1000 {
		t.Errorf("texts of each kind: %v", seen)
	}
}
