package rule

import (
	"strconv"
	"strings"
	"testing"

	"quilt/api"
	"quilt/chance"
)

// numbered is a part's numbers as the chapter has them.
func numbered(part uint16) string {
	s := ""
	for n := 0; n <= 8; n++ {
		if part/(1<<n)%2 == 1 {
			s += strconv.Itoa(n)
		}
	}
	return s
}

// part is what the chapter makes of a part's numbers, and whether they are such.
func part(s string) (uint16, bool) {
	var bits uint16
	for _, number := range strings.Split(s, "") {
		n := strings.Index("012345678", number)
		if n < 0 || strings.Count(s, number) > 1 {
			return 0, false
		}
		bits += 1 << n
	}
	return bits, true
}

// parsed is Parse as the chapter tells it, from both ends and cut at its signs: another way than the package's own, to hold it against. The error is 0 where there is none.
func parsed(s string) (Rule, api.Errno) {
	if s == "" || !strings.Contains("Bb", s[:1]) {
		return Rule{}, api.ErrForm
	}
	born, rest, ok := strings.Cut(s[1:], "/")
	if !ok || rest == "" || !strings.Contains("Ss", rest[:1]) {
		return Rule{}, api.ErrForm
	}
	b, bornOk := part(born)
	l, liveOk := part(rest[1:])
	if !bornOk || !liveOk {
		return Rule{}, api.ErrForm
	}
	if !mayBe(Rule{b, l}) {
		return Rule{}, api.ErrRule
	}
	return Rule{b, l}, 0
}

// reads holds Parse against the chapter's words.
func reads(t *testing.T, s string) {
	t.Helper()
	want, number := parsed(s)
	got, err := Parse(s)
	if got != want || number == 0 && err != nil || number != 0 && !isError(err, number) {
		t.Fatalf("Parse(%q): %x, %v, want %x, %v", s, got, err, want, number)
	}
}

func parses(t *testing.T, s string, want Rule) {
	t.Helper()
	if got, err := Parse(s); err != nil || got != want {
		t.Errorf("Parse(%q): %x, %v, want %x", s, got, err, want)
	}
}

func parsesNot(t *testing.T, s string, want api.Errno) {
	t.Helper()
	if got, err := Parse(s); got != (Rule{}) || !isError(err, want) {
		t.Errorf("Parse(%q): %x, %v, want %v", s, got, err, want)
	}
}

// RU1, RU3: every rule that may be, there and back.
func TestTextThereAndBack(t *testing.T) {
	for r := range eachThatMayBe {
		s, err := Text(r)
		if want := "B" + numbered(r.Born) + "/S" + numbered(r.Live); err != nil || s != want {
			t.Fatalf("Text(%x): %q, %v, want %q", r, s, err, want)
		}
		if got, err := Parse(s); err != nil || got != r {
			t.Fatalf("Parse(%q): %x, %v, want %x", s, got, err, r)
		}
	}
}

// RU1: texts that the chapter's words tell at sight.
func TestTextKnown(t *testing.T) {
	for _, k := range []struct {
		r    Rule
		want string
	}{
		{Rule{8, 12}, "B3/S23"},
		{Rule{}, "B/S"},
		{Rule{2, 0}, "B1/S"},
		{Rule{0, 1}, "B/S0"},
		{Rule{1 << 8, 1 << 8}, "B8/S8"},
		{Rule{1<<3 | 1<<6, 12}, "B36/S23"},
		{Rule{0x1fe, 0x1ff}, "B12345678/S012345678"},
	} {
		if s, err := Text(k.r); err != nil || s != k.want {
			t.Errorf("Text(%x): %q, %v, want %q", k.r, s, err, k.want)
		}
		parses(t, k.want, k.r)
	}
}

// RU1: a rule that may not be has no text.
func TestTextWrong(t *testing.T) {
	for _, r := range wrong() {
		if s, err := Text(r); s != "" || !isError(err, api.ErrRule) {
			t.Errorf("Text(%x): %q, %v", r, s, err)
		}
	}
}

// RU1: small letters and great ones, mixed.
func TestParseLetters(t *testing.T) {
	for _, s := range []string{"B3/S23", "b3/s23", "B3/s23", "b3/S23"} {
		parses(t, s, Rule{8, 12})
	}
	for _, s := range []string{"B/S", "b/s", "B/s", "b/S"} {
		parses(t, s, Rule{})
	}
}

// RU1: parts without numbers.
func TestParseNoNumbers(t *testing.T) {
	parses(t, "B/S", Rule{})
	parses(t, "B/S23", Rule{0, 12})
	parses(t, "B3/S", Rule{8, 0})
}

// orders hands out the numbers of s in each order.
func orders(s string, yield func(string)) {
	if s == "" {
		yield("")
	}
	for i := range s {
		orders(s[:i]+s[i+1:], func(rest string) { yield(s[i:i+1] + rest) })
	}
}

// RU1: numbers in any order.
func TestParseAnyOrder(t *testing.T) {
	orders("1368", func(born string) {
		orders("0258", func(live string) {
			parses(t, "B"+born+"/S"+live, Rule{1<<1 | 1<<3 | 1<<6 | 1<<8, 1<<0 | 1<<2 | 1<<5 | 1<<8})
		})
	})
	parses(t, "B87654321/S876543210", Rule{0x1fe, 0x1ff})
	c := chance.Chance(1)
	for range 2000 {
		born, live := []byte("12345678"), []byte("012345678")
		for _, l := range [][]byte{born, live} {
			for i := range l {
				j := i + c.Below(len(l)-i)
				l[i], l[j] = l[j], l[i]
			}
		}
		cutBorn, cutLive := c.Below(9), c.Below(10)
		s := "B" + string(born[:cutBorn]) + "/S" + string(live[:cutLive])
		reads(t, s)
		if _, err := Parse(s); err != nil {
			t.Fatalf("Parse(%q): %v", s, err)
		}
	}
}

// RU1: a number twice in one part, wherever; once in each is none twice.
func TestParseTwice(t *testing.T) {
	for n := range 9 {
		d := strconv.Itoa(n)
		parsesNot(t, "B"+d+d+"/S", api.ErrForm)
		parsesNot(t, "B"+d+d+"/S23", api.ErrForm)
		parsesNot(t, "B/S"+d+d, api.ErrForm)
		parsesNot(t, "B3/S"+d+d, api.ErrForm)
		parsesNot(t, "B/S012345678"+d, api.ErrForm)
		parsesNot(t, "B/S"+d+"012345678", api.ErrForm)
		if n > 0 {
			parses(t, "B"+d+"/S"+d, Rule{1 << n, 1 << n})
			parsesNot(t, "B"+d+"12345678/S", api.ErrForm)
			parsesNot(t, "B12345678"+d+"/S", api.ErrForm)
			parsesNot(t, "B"+d+d+"/S"+d, api.ErrForm)
			parsesNot(t, "B"+d+"/S"+d+d, api.ErrForm)
		}
	}
	// Three times are as twice, and not as once.
	parsesNot(t, "B333/S23", api.ErrForm)
	parsesNot(t, "B3/S232", api.ErrForm)
	parsesNot(t, "B3/S222", api.ErrForm)
}

// RU1: no number is above 8, and none is of two digits.
func TestParseNine(t *testing.T) {
	for _, s := range []string{"B9/S", "B/S9", "B39/S23", "B93/S23", "B3/S239", "B3/S923", "B9/S9", "B3/S10 ", "B123456789/S", "B/S0123456789", "B3/S-2", "B-3/S2", "B+3/S2", "B3/S2.", "B3,6/S23"} {
		parsesNot(t, s, api.ErrForm)
	}
	parses(t, "B3/S10", Rule{8, 3})
}

// RU1: each beginning of a text that is not whole has no form; nor has one with anything behind.
func TestParseEnds(t *testing.T) {
	whole := "B36/S23"
	for end := range strings.Index(whole, "S") + 1 {
		parsesNot(t, whole[:end], api.ErrForm)
	}
	for _, s := range []string{"", "B", "b", "B3", "B/", "B3/", "b36/"} {
		parsesNot(t, s, api.ErrForm)
	}
	for _, behind := range []string{"/", "S", "s", "B", "b", "/S", "/S23", "B3/S23", " ", "\n", "\r", "\t", "\x00", "#", "V", "H", ":T8,8", "9", "\xff", "\xc2"} {
		parsesNot(t, whole+behind, api.ErrForm)
		parsesNot(t, "B/S"+behind, api.ErrForm)
	}
}

// RU1: the other way round, doubled, or with a part left out.
func TestParseOtherParts(t *testing.T) {
	for _, s := range []string{"S23/B3", "s23/b3", "S/B", "23/3", "3/23", "B3", "S23", "/S23", "B3/23", "3/S23", "B3S23", "S23B3", "BS", "B/B", "S/S", "B3/B3", "S23/S23",
		"BB3/S23", "B3//S23", "B3/SS23", "B3/S2/3", "B/3/S23", "/B3/S23", "/", "//", "B3/2S3", "3B/S23", "B3/S2S3", "B3B/S23", "B3/S23/", "BB/SS", "Bb/Ss"} {
		parsesNot(t, s, api.ErrForm)
	}
}

// RU1: other signs, and what stands for the right ones elsewhere: blanks, digits and letters of other kinds, marks ahead of a text.
func TestParseOtherSigns(t *testing.T) {
	for _, s := range []string{" B3/S23", "B3/S23 ", "B 3/S23", "B3 /S23", "B3/ S23", "B3/S 23", "B3/S2 3", "\tB3/S23", "B3/S23\n", "B3/S23\x00", "\x00B3/S23",
		"B3\\S23", "B3|S23", "B3-S23", "B3:S23", "B3.S23", "A3/S23", "C3/S23", "B3/R23", "B3/T23", "B3/Z23", "83/S23", "B3/523", "B3/X23", "B3/$23", "R3/S23", "\"3/S23", "B3\x0fS23", "B3/\x1323", "\x023/S23",
		"B3/\u017f23", "\u00df3/S23", "\u03923/S23", "\u04123/S23", "B3/\u040523", "\uff223/S23", "B3/\uff3323", "B3\uff0fS23", "B3\u2044S23", "B3\u2215S23",
		"B\uff13/S23", "B\u0663/S23", "B3/S\u00b2\u00b3", "B3/S\u0968", "B\u2083/S", "\ufeffB3/S23", "B3/S23\ufeff", "B\u00a03/S23", "B\u0133/S", "B\u0142/S", "\u01423/S23", "B3/\u015323", "B3\u012fS23", "B\U00010033/S23",
		"\ufffd3/S23", "B\ufffd/S23", "B3\ufffdS23", "B3/\ufffd23", "B3/S\ufffd"} {
		parsesNot(t, s, api.ErrForm)
	}
}

// RU1: bytes that are no UTF-8, in the place of each byte, and between all of them.
func TestParseNoUTF8(t *testing.T) {
	for _, bad := range []string{"\xff", "\xfe", "\x80", "\xbf", "\xc0\xb3", "\xc1\x82", "\xc2", "\xe0\x80\xb3", "\xe2\x81", "\xed\xa0\x80", "\xf0\x80\x80\xb3", "\xf4\x90\x80\x80", "\xb3", "\xb2", "\xaf", "\xd3", "\xf3"} {
		for _, s := range []string{"B3/S23", "b/s", "B12345678/S012345678"} {
			for at := range len(s) + 1 {
				parsesNot(t, s[:at]+bad+s[at:], api.ErrForm)
				if at < len(s) {
					parsesNot(t, s[:at]+bad+s[at+1:], api.ErrForm)
				}
			}
		}
		parsesNot(t, bad, api.ErrForm)
	}
}

// RU1: of the form, but born of nothing: another error; and where both are, the form is told first.
func TestParseWrongRule(t *testing.T) {
	for _, s := range []string{"B0/S", "b0/s", "B0/S23", "B03/S23", "B30/S23", "B0/S0", "B012345678/S012345678", "B876543210/S876543210", "B102/S3"} {
		parsesNot(t, s, api.ErrRule)
	}
	for _, s := range []string{"B0", "B0/", "B0/S9", "B00/S", "B0/S22", "B09/S", "B0/S23 ", " B0/S23", "S/B0", "B0/SS", "B0/S23/", "B0\xff/S"} {
		parsesNot(t, s, api.ErrForm)
	}
	parses(t, "B/S0", Rule{0, 1})
}

// RU1: all texts of a few signs, and so all orders of the parts.
func TestParseAllShort(t *testing.T) {
	all := []string{""}
	for range 6 {
		var longer []string
		for _, s := range all {
			reads(t, s)
			for _, c := range "Bb/Ss0389" {
				longer = append(longer, s+string(c))
			}
		}
		all = longer
	}
	for _, s := range all {
		reads(t, s)
	}
}

// RU1: each byte in the place of each of a text's, and ahead of and behind it; and a text without one of its own.
func TestParseEachByte(t *testing.T) {
	for _, s := range []string{"B/S", "b3/s", "B3/S23", "b02/S8", "B36/s125", "B1234567/S01234567", "B12345678/S012345678"} {
		for at := range len(s) + 1 {
			for x := range 256 {
				reads(t, s[:at]+string([]byte{byte(x)})+s[at:])
				if at < len(s) {
					reads(t, s[:at]+string([]byte{byte(x)})+s[at+1:])
				}
			}
			if at < len(s) {
				reads(t, s[:at]+s[at+1:])
			}
		}
	}
}

// RU1: each character in the place of a text's letters, its sign and its numbers.
func TestParseEachCharacter(t *testing.T) {
	for c := range rune(0x30000) {
		x := string(c)
		for _, s := range []string{x + "3/S2", "B" + x + "/S2", "B3" + x + "S2", "B3/" + x + "2", "B3/S" + x} {
			reads(t, s)
		}
	}
}

// A long text ends too.
func TestParseLong(t *testing.T) {
	for _, s := range []string{"B", "/", "S", "3", " ", "B3/S23", "\xff"} {
		long := strings.Repeat(s, 1<<20)
		parsesNot(t, long, api.ErrForm)
		parsesNot(t, "B3/S23"+long, api.ErrForm)
	}
}

// Rule 4: the same text tells the same again, whatever was asked in between.
func TestSameAgain(t *testing.T) {
	texts := []string{"B3/S23", "B0/S", "B", "b36/s125", ""}
	for range 3 {
		for _, s := range texts {
			reads(t, s)
			if r, err := Parse(s); err == nil {
				if _, err := Text(r); err != nil {
					t.Errorf("Text(%x): %v", r, err)
				}
				if _, err := Next(r, true, 9); !isError(err, api.ErrArg) {
					t.Errorf("Next(%x, true, 9): %v", r, err)
				}
			}
		}
	}
}
