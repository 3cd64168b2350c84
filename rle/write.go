package rle

import (
	"strconv"

	"quilt/api"
)

// longest is how many bytes a line of runs has at most.
const longest = 70

// writer lays a text line by line.
type writer struct {
	text []byte
	line int // where the line begins that has no end yet
}

// head lays the head. It never has more bytes than a line of runs.
func (w *writer) head(width, height int, law string) {
	w.put("x = " + strconv.Itoa(width) + ", y = " + strconv.Itoa(height) + ", rule = " + law)
	w.endLine()
}

// runs lays the runs of sorted cells. Only how far one lies from another is told, so they need not be moved first.
func (w *writer) runs(l []api.Cell, least api.Cell) {
	at := least
	for len(l) > 0 {
		first := l[0]
		if first.Y > at.Y {
			w.run(first.Y-at.Y, "$")
			at = api.Cell{X: least.X, Y: first.Y}
		}
		w.run(first.X-at.X, "b")
		n := together(l)
		w.run(n, "o")
		at.X = first.X + n
		l = l[n:]
	}
}

// together is how many of some sorted cells lie side by side, from the first one on.
func together(l []api.Cell) int {
	n := 1
	for n < len(l) && l[n] == (api.Cell{X: l[0].X + n, Y: l[0].Y}) {
		n++
	}
	return n
}

// run lays a run, of no length none.
func (w *writer) run(n int, tag string) {
	switch n {
	case 0:
	case 1:
		w.put(tag)
	default:
		w.put(strconv.Itoa(n) + tag)
	}
}

// put lays what must stand in one line, in a new one if it is too long for this.
func (w *writer) put(s string) {
	if len(w.text)-w.line+len(s) > longest {
		w.endLine()
	}
	w.text = append(w.text, s...)
}

func (w *writer) endLine() {
	w.text = append(w.text, '\n')
	w.line = len(w.text)
}
