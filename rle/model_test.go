package rle

import (
	"cmp"
	"errors"
	"math/big"
	"regexp"
	"slices"
	"strconv"
	"strings"
	"testing"

	"quilt/api"
	"quilt/chance"
	"quilt/rule"
)

const far = 1 << 38

// life is the rule that most of the tests take.
var life = rule.Rule{Born: 1 << 3, Live: 1<<2 | 1<<3}

const headOfNone = "x = 0, y = 0, rule = B3/S23\n"

func isError(err error, want api.Errno) bool {
	var number api.Errno
	return errors.As(err, &number) && number == want
}

// writes asks for a text, and that the cells stay as they are.
func writes(t *testing.T, r rule.Rule, l []api.Cell, want string) {
	t.Helper()
	before := slices.Clone(l)
	got, err := Write(r, l)
	if err != nil || got != want {
		t.Fatalf("Write(%x, %v):\n%s%v, want\n%s", r, some(l), got, err, want)
	}
	if !slices.Equal(l, before) {
		t.Fatalf("Write(%x, %v): the cells are changed", r, some(before))
	}
}

// writesNot asks for an error, and for nothing beside it.
func writesNot(t *testing.T, r rule.Rule, l []api.Cell, want api.Errno) {
	t.Helper()
	before := slices.Clone(l)
	got, err := Write(r, l)
	if got != "" || !isError(err, want) {
		t.Fatalf("Write(%x, %v):\n%s%v, want %v", r, some(l), got, err, want)
	}
	if !slices.Equal(l, before) {
		t.Fatalf("Write(%x, %v): the cells are changed", r, some(before))
	}
}

// parses asks for a rule and cells, and for no place.
func parses(t *testing.T, s string, r rule.Rule, want []api.Cell) {
	t.Helper()
	got, l, at, err := Parse(s)
	if err != nil || got != r || !slices.Equal(l, want) || at != 0 {
		t.Fatalf("Parse(%.300q): %x, %v, %d, %v, want %x, %v", s, got, some(l), at, err, r, some(want))
	}
}

// parsesNot asks for an error and its place, and for nothing beside them.
func parsesNot(t *testing.T, s string, at int, want api.Errno) {
	t.Helper()
	got, l, gotAt, err := Parse(s)
	if got != (rule.Rule{}) || len(l) != 0 || gotAt != at || !isError(err, want) {
		t.Fatalf("Parse(%.300q): %x, %v, %d, %v, want %v at %d", s, got, some(l), gotAt, err, want, at)
	}
}

// some are the first ones of cells, so that what is told stays short.
func some(l []api.Cell) []api.Cell { return l[:min(len(l), 20)] }

// moved are cells so much further to the right, and down.
func moved(l []api.Cell, x, y int) []api.Cell {
	on := make([]api.Cell, len(l))
	for i, c := range l {
		on[i] = api.Cell{X: c.X + x, Y: c.Y + y}
	}
	return on
}

// home are cells sorted, each once, with the least X and Y at 0.
func home(l []api.Cell) []api.Cell {
	if len(l) == 0 {
		return nil
	}
	left := slices.MinFunc(l, func(a, b api.Cell) int { return cmp.Compare(a.X, b.X) })
	above := slices.MinFunc(l, func(a, b api.Cell) int { return cmp.Compare(a.Y, b.Y) })
	l = moved(l, -left.X, -above.Y)
	slices.SortFunc(l, func(a, b api.Cell) int { return cmp.Or(cmp.Compare(a.Y, b.Y), cmp.Compare(a.X, b.X)) })
	return slices.Compact(l)
}

// shuffled are cells in another order, some of them twice.
func shuffled(c *chance.Chance, l []api.Cell) []api.Cell {
	l = slices.Clone(l)
	if room := min(len(l), 4096-len(l)); room > 0 {
		l = append(l, l[:c.Below(room+1)]...)
	}
	for i := range l {
		j := i + c.Below(len(l)-i)
		l[i], l[j] = l[j], l[i]
	}
	return l
}

// anyBelow is a number from 0 to n-1, also of such n as are above what one number of chance tells.
func anyBelow(c *chance.Chance, n int) int { return (c.Below(1<<31)<<31 + c.Below(1<<31)) % n }

// anyRule is one that may be.
func anyRule(c *chance.Chance) rule.Rule {
	return rule.Rule{Born: uint16(c.Below(256)) * 2, Live: uint16(c.Below(512))}
}

// named is a rule as layer 8 writes it.
func named(t *testing.T, r rule.Rule) string {
	t.Helper()
	s, err := rule.Text(r)
	if err != nil {
		t.Fatal(err)
	}
	return s
}

// headed is a text of such a width, such a height, such a rule, and such runs with their `!`: each run, and the `!`, in the line where it has its place.
func headed(width, height int, law string, runs []string) string {
	s := "x = " + strconv.Itoa(width) + ", y = " + strconv.Itoa(height) + ", rule = " + law + "\n"
	return s + strings.Join(filled(runs), "\n") + "\n"
}

// filled are the lines of runs: into each goes all that has room.
func filled(runs []string) []string {
	var lines []string
	for len(runs) > 0 {
		n := 1
		for n < len(runs) && len(strings.Join(runs[:n+1], "")) <= 70 {
			n++
		}
		lines, runs = append(lines, strings.Join(runs[:n], "")), runs[n:]
	}
	return lines
}

// picture is a text as the chapter tells it of cells that lie near each other, by a picture of each row: another way than the package's own, to hold it against.
func picture(law string, l []api.Cell) string {
	l = home(l)
	width, height := 0, 0
	for _, c := range l {
		width, height = max(width, c.X+1), max(height, c.Y+1)
	}
	rows := make([][]byte, height)
	for y := range rows {
		rows[y] = []byte(strings.Repeat("b", width))
	}
	for _, c := range l {
		rows[c.Y][c.X] = 'o'
	}
	var all []string
	for _, row := range rows {
		all = append(all, strings.TrimRight(string(row), "b"))
	}
	var runs []string
	for _, same := range regexp.MustCompile(`b+|o+|\$+`).FindAllString(strings.Join(all, "$"), -1) {
		runs = append(runs, counted(len(same), same[:1]))
	}
	return headed(width, height, law, append(runs, "!"))
}

// counted is a run as it is written.
func counted(n int, tag string) string {
	if n == 1 {
		return tag
	}
	return strconv.Itoa(n) + tag
}

// shape is made run by run: its cells, and its runs as they must be written. It begins at the left, so that nothing is moved.
type shape struct {
	at, size api.Cell
	cells    []api.Cell
	runs     []string
}

// free lets so many cells be free.
func (p *shape) free(n int) {
	p.runs = append(p.runs, counted(n, "b"))
	p.at.X += n
}

// live lets so many live.
func (p *shape) live(n int) {
	p.runs = append(p.runs, counted(n, "o"))
	for range n {
		p.cells = append(p.cells, p.at)
		p.at.X++
	}
	p.size = api.Cell{X: max(p.size.X, p.at.X), Y: p.at.Y + 1}
}

// down goes so many rows down.
func (p *shape) down(n int) {
	p.runs = append(p.runs, counted(n, "$"))
	p.at = api.Cell{Y: p.at.Y + n}
}

// text is what Write has to answer.
func (p *shape) text(law string) string {
	return headed(p.size.X, p.size.Y, law, append(slices.Clone(p.runs), "!"))
}

// parsed is Parse as the chapter tells it, by patterns and by numbers of any length: another way than the package's own, to hold it against. The error is 0 where there is none.
func parsed(s string) (rule.Rule, []api.Cell, int, api.Errno) {
	if len(s) > 65536 {
		return rule.Rule{}, nil, 0, api.ErrLong
	}
	begin := len(notesForm.FindString(s))
	line := lineForm.FindString(s[begin:])
	m := headForm.FindStringSubmatch(line)
	if m == nil || isAbove(m[1], far) || isAbove(m[2], far) {
		return rule.Rule{}, nil, begin, api.ErrForm
	}
	r, err := rule.Parse(m[3])
	if err != nil {
		return rule.Rule{}, nil, begin, api.ErrRule
	}
	l, at, number := parsedRuns(s, begin+len(line))
	if number != 0 {
		return rule.Rule{}, nil, at, number
	}
	return r, l, 0, 0
}

var (
	notesForm  = regexp.MustCompile(`^(#[^\n]*(\n|$))*`)
	lineForm   = regexp.MustCompile(`^[^\n]*`)
	headForm   = regexp.MustCompile(`^[ \t\r]*x[ \t\r]*=[ \t\r]*(0|[1-9][0-9]*)[ \t\r]*,[ \t\r]*y[ \t\r]*=[ \t\r]*(0|[1-9][0-9]*)[ \t\r]*,[ \t\r]*rule[ \t\r]*=[ \t\r]*(|[^ \t\r]|[^ \t\r].*[^ \t\r])[ \t\r]*$`)
	blankForm  = regexp.MustCompile(`^[ \t\r\n]*`)
	runForm    = regexp.MustCompile(`^([1-9][0-9]*)?([bo$])`)
	numberForm = regexp.MustCompile(`^([1-9][0-9]*)?`)
)

func isAbove(digits string, n int64) bool {
	x, _ := new(big.Int).SetString(digits, 10)
	return x.Cmp(big.NewInt(n)) > 0
}

func parsedRuns(s string, at int) ([]api.Cell, int, api.Errno) {
	var l []api.Cell
	var x, y int
	for {
		at += len(blankForm.FindString(s[at:]))
		if s[at:] != "" && s[at] == '!' {
			return l, 0, 0
		}
		m := runForm.FindStringSubmatch(s[at:])
		if m == nil {
			return nil, at + len(numberForm.FindString(s[at:])), api.ErrForm
		}
		n := 1
		if m[1] != "" {
			if isAbove(m[1], far) {
				return nil, at, api.ErrLimit
			}
			n, _ = strconv.Atoi(m[1])
		}
		toX, toY := x+n, y
		if m[2] == "$" {
			toX, toY = 0, y+n
		}
		if toX > far+1 || toY > far || m[2] == "o" && len(l)+n > 4096 {
			return nil, at, api.ErrLimit
		}
		for ; m[2] == "o" && x < toX; x++ {
			l = append(l, api.Cell{X: x, Y: y})
		}
		x, y = toX, toY
		at += len(m[0])
	}
}

// reads holds Parse against the chapter's words, and tells what number it answers.
func reads(t *testing.T, s string) api.Errno {
	t.Helper()
	r, l, at, number := parsed(s)
	if number == 0 {
		parses(t, s, r, l)
	} else {
		parsesNot(t, s, at, number)
	}
	return number
}
