package tile

import (
	"quilt/api"
	"quilt/rule"
)

const (
	half = side / 2
	most = 8 // neighbours of a cell

	// With each generation a cell hangs on what is one cell further away, and no more than half a tile lies about the middle of four.
	mostGrown = half
)

// Middle is the middle of four tiles: left above, right above, left below, right below.
func Middle(t [4]Tile) Tile { return lay(t[:], 2).cut(half, half) }

// Next is the middle one of nine tiles, one generation on.
func Next(r rule.Rule, t [9]Tile) (Tile, error) {
	f, err := fatesBy(r)
	if err != nil {
		return 0, err
	}
	return f.step(lay(t[:], 3)).cut(side, side), nil
}

// Grow is the middle of four tiles, so many generations on, four at most.
func Grow(r rule.Rule, t [4]Tile, n int) (Tile, error) {
	f, err := fatesBy(r)
	if err != nil {
		return 0, err
	}
	if n < 0 || n > mostGrown {
		return 0, api.ErrArg
	}
	grown := lay(t[:], 2)
	for range n {
		grown = f.step(grown)
	}
	return grown.cut(half, half), nil
}

// fates are what becomes of cells by how many neighbours live: of those that live, and of those that do not. Each is all bits or none, so that it holds for a whole row.
type fates [most + 1]struct{ live, born uint32 }

// fatesBy asks a rule ahead for all that it may be asked.
func fatesBy(r rule.Rule) (fates, error) {
	var f fates
	for n := range f {
		live, err := rule.Next(r, true, n)
		if err != nil {
			return fates{}, err
		}
		born, err := rule.Next(r, false, n)
		if err != nil {
			return fates{}, err
		}
		f[n].live, f[n].born = wholly(live), wholly(born)
	}
	return f, nil
}

func wholly(lives bool) uint32 {
	if lives {
		return ^uint32(0)
	}
	return 0
}

// step is a field one generation on. What lies outside of it is taken for cells that do not live, so its edges may be wrong.
func (f *fates) step(old field) field {
	next := make(field, len(old))
	for y, row := range old {
		var above, below uint32
		if y > 0 {
			above = old[y-1]
		}
		if y < len(old)-1 {
			below = old[y+1]
		}
		next[y] = f.row(above, row, below)
	}
	return next
}

// row is a row one generation on, by those above and below it.
func (f *fates) row(above, row, below uint32) uint32 {
	var c counts
	for _, near := range [...]uint32{above, below} {
		c.add(near << 1)
		c.add(near)
		c.add(near >> 1)
	}
	c.add(row << 1)
	c.add(row >> 1)
	var next uint32
	for n, fate := range f {
		next |= c.where(n) & (row&fate.live | ^row&fate.born)
	}
	return next
}

// counts are how many neighbours each cell of a row has that live: the number's bit i stands in counts[i], at the cell's place. So all of a row are counted at once.
type counts [4]uint32

// add counts one more neighbour of the cells at whose places there is a bit.
func (c *counts) add(carry uint32) {
	for i, bit := range c {
		c[i], carry = bit^carry, bit&carry
	}
}

// where has a bit at the places of the cells of which n were counted.
func (c *counts) where(n int) uint32 {
	same := ^uint32(0)
	for i, bit := range c {
		same &= bit ^ wholly(n>>i&1 == 0)
	}
	return same
}
