package rle

import (
	"strings"

	"quilt/api"
)

const (
	tags = "bo$"

	// between are the blanks that may stand between runs: line ends as well.
	between = blanks + "\n"
)

// plane takes runs, one behind the other.
type plane struct {
	at    api.Cell // where the next run begins
	cells []api.Cell
}

// readRuns are the cells of the runs from a place of s on; where they are wrong.
func readRuns(s string, at int) ([]api.Cell, int, error) {
	var p plane
	for {
		at = len(s) - len(strings.TrimLeft(s[at:], between))
		if strings.HasPrefix(s[at:], "!") {
			return p.cells, 0, nil
		}
		n, digits, ok := readRun(s[at:])
		if !ok {
			return nil, at + digits, api.ErrForm
		}
		if n > most || !p.lay(n, s[at+digits]) {
			return nil, at, api.ErrLimit
		}
		at += digits + 1
	}
}

// readRun is the number of the run with which s begins, and how many digits stand ahead of its tag. Where s begins with none, it is how many bytes stand ahead of the one that can't stand there.
func readRun(s string) (n, digits int, ok bool) {
	if strings.HasPrefix(s, "0") {
		return 0, 0, false
	}
	n, digits = number(s)
	if digits == len(s) || strings.IndexByte(tags, s[digits]) < 0 {
		return 0, digits, false
	}
	return max(n, 1), digits, true // a tag alone tells 1, and no number tells 0
}

// lay lays a run, and tells whether there is room for it. As runs go to the right and down alone, cells come sorted, and none comes twice.
func (p *plane) lay(n int, tag byte) bool {
	switch tag {
	case 'b':
		p.at.X += n
	case 'o':
		if len(p.cells)+n > api.MaxCells {
			return false
		}
		for range n {
			p.cells = append(p.cells, p.at)
			p.at.X++
		}
	case '$':
		p.at = api.Cell{Y: p.at.Y + n}
	}
	return p.at.X <= most+1 && p.at.Y <= most
}
