package macro

import (
	"strconv"

	"quilt/quad"
)

// writer lays lines of squares, each behind those that it needs.
type writer struct {
	store *quad.Store
	lines map[int]int // from squares to the numbers of their lines
	text  []byte
}

// lay lays a square's line, and tells its number.
func (w *writer) lay(id int) (int, error) {
	line, err := w.lineOf(id)
	if err != nil {
		return 0, err
	}
	w.put(line)
	w.lines[id] = len(w.lines) + 1
	return w.lines[id], nil
}

// lineOf is a square's line, without its end.
func (w *writer) lineOf(id int) (string, error) {
	level, err := w.store.Level(id)
	if err != nil {
		return "", err
	}
	if level > lowest {
		return w.lineOfFour(id, level)
	}
	t, err := w.store.Tile(id)
	if err != nil {
		return "", err
	}
	return tileText(t), nil
}

// lineOfFour is the line of a square of four. Those of the four are laid ahead of it, where they are not there yet.
func (w *writer) lineOfFour(id, level int) (string, error) {
	kids, err := w.store.Kids(id)
	if err != nil {
		return "", err
	}
	line := strconv.Itoa(level)
	for _, kid := range kids {
		n, err := w.number(kid)
		if err != nil {
			return "", err
		}
		line += " " + strconv.Itoa(n)
	}
	return line, nil
}

// number is that of the line of one of four, which is laid, if it is not there yet; 0 of a square in which none lives, as it needs no line.
func (w *writer) number(id int) (int, error) {
	if n, there := w.lines[id]; there {
		return n, nil
	}
	count, err := w.store.Count(id)
	if err != nil || count == 0 {
		return 0, err
	}
	return w.lay(id)
}

// put lays a line, and its end.
func (w *writer) put(line string) {
	w.text = append(w.text, line...)
	w.text = append(w.text, '\n')
}
