package macro

import (
	"strconv"
	"strings"

	"quilt/api"
	"quilt/quad"
	"quilt/rule"
)

// reader takes a text line by line.
type reader struct {
	store *quad.Store
	lines map[int]int // from the numbers of lines to their squares
	rest  string      // from the line on that is not taken yet: where one is wrong, it begins there
}

// head takes the two first lines, and tells the rule.
func (p *reader) head() (rule.Rule, error) {
	line, behind, ended := strings.Cut(p.rest, "\n")
	if !ended || line != title {
		return rule.Rule{}, api.ErrForm
	}
	p.rest = behind
	line, behind, ended = strings.Cut(p.rest, "\n")
	law, ok := strings.CutPrefix(line, lawMark)
	if !ended || !ok {
		return rule.Rule{}, api.ErrForm
	}
	r, err := rule.Parse(law)
	if err != nil {
		// A text that is no rule at all is ErrForm there, but here the line itself has its form.
		return rule.Rule{}, api.ErrRule
	}
	p.rest = behind
	return r, nil
}

// squares takes all other lines, of which there is one at least, and makes their squares.
func (p *reader) squares() error {
	for last := false; !last; {
		line, behind, ended := strings.Cut(p.rest, "\n")
		if !ended {
			return api.ErrForm
		}
		last = behind == ""
		id, err := p.square(line, last)
		if err != nil {
			return err
		}
		p.lines[len(p.lines)+1] = id
		p.rest = behind
	}
	return nil
}

// square makes that of a line. The last line can't be a tile's.
func (p *reader) square(line string, last bool) (int, error) {
	if t, ok := readTile(line); ok && !last {
		return p.store.Leaf(t)
	}
	level, four, ok := p.readFour(line)
	if !ok {
		return 0, api.ErrForm
	}
	for i, id := range four {
		if id != 0 {
			continue
		}
		empty, err := p.store.Empty(level - 1)
		if err != nil {
			return 0, err
		}
		four[i] = empty
	}
	return p.store.Node(four)
}

// readFour is what a line tells of a square of four: its level, and the four, 0 for one without cells; and whether it is the line of one.
func (p *reader) readFour(line string) (int, [4]int, bool) {
	var four [4]int
	parts := strings.Split(line, " ")
	if len(parts) != 1+len(four) {
		return 0, [4]int{}, false
	}
	level, ok := number(parts[0])
	if !ok || level <= lowest || level > api.MaxLevel {
		return 0, [4]int{}, false
	}
	for i, part := range parts[1:] {
		n, ok := number(part)
		if !ok || n != 0 && !p.has(n, level-1) {
			return 0, [4]int{}, false
		}
		four[i] = p.lines[n] // there is no line 0
	}
	return level, four, true
}

// has tells whether the line of a number is ahead, and of a square of a level.
func (p *reader) has(n, level int) bool {
	id, there := p.lines[n]
	if !there {
		return false
	}
	its, err := p.store.Level(id)
	return err == nil && its == level
}

// number is what digits tell, and whether they are written as a number is.
func number(s string) (int, bool) {
	n, err := strconv.Atoi(s)
	return n, err == nil && n >= 0 && strconv.Itoa(n) == s
}
