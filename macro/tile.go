package macro

import (
	"strings"

	"quilt/tile"
)

// tileText is a tile as a line. What stands behind the last cell that lives, in a row and in the whole, is left out: nothing of it is left in what is still to be told.
func tileText(t tile.Tile) string {
	var text []byte
	for rest := t; rest != 0; rest >>= side {
		for row := rest & (1<<side - 1); row != 0; row >>= 1 {
			text = append(text, ".*"[row&1])
		}
		text = append(text, '$')
	}
	return string(text)
}

// readTile is the tile of a line, and whether it is a tile's.
func readTile(line string) (tile.Tile, bool) {
	ahead, ok := strings.CutSuffix(line, "$")
	rows := strings.Split(ahead, "$")
	if !ok || len(rows) > side || rows[len(rows)-1] == "" {
		return 0, false
	}
	var t tile.Tile
	for y, text := range rows {
		row, ok := readRow(text)
		if !ok {
			return 0, false
		}
		t |= row << (side * y)
	}
	return t, true
}

// readRow is a row of a tile, as the first one of it, and whether it has the form of one: of no signs, or the last of them a cell that lives.
func readRow(text string) (tile.Tile, bool) {
	if len(text) > side || strings.HasSuffix(text, ".") {
		return 0, false
	}
	var row tile.Tile
	for x, sign := range []byte(text) {
		switch sign {
		case '*':
			row |= 1 << x
		case '.':
		default:
			return 0, false
		}
	}
	return row, true
}
