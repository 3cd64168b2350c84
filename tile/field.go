package tile

import "iter"

const wholeRow = 1<<side - 1

// field is the rows of tiles that lie side by side, from above: the bit x of a row is its cell x to the right.
type field []uint32

// lay is the field of tiles that are told row by row, so many in each.
func lay(tiles []Tile, wide int) field {
	f := make(field, len(tiles)/wide*side)
	for i, t := range tiles {
		left, above := i%wide*side, i/wide*side
		for y, row := range rows(t) {
			f[above+y] |= row << left
		}
	}
	return f
}

// cut is the tile of a field that has so many cells to its left and above it.
func (f field) cut(left, above int) Tile {
	var t Tile
	for y, row := range f[above : above+side] {
		t |= Tile(row>>left&wholeRow) << (side * y)
	}
	return t
}

// rows goes over a tile's rows from above, with how far down each is.
func rows(t Tile) iter.Seq2[int, uint32] {
	return func(yield func(int, uint32) bool) {
		for y := range side {
			if !yield(y, uint32(t>>(side*y)&wholeRow)) {
				return
			}
		}
	}
}
