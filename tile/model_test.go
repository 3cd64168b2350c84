package tile

import (
	"errors"
	"math"
	"testing"

	"quilt/api"
	"quilt/chance"
	"quilt/rule"
)

// plane is cells one by one, without an edge: another way than the package's own, to hold it against.
type plane map[api.Cell]bool

// add lays a tile's cells so far to the right and down.
func (p plane) add(t Tile, left, above int) {
	for i := range 64 {
		if t>>i&1 == 1 {
			p[api.Cell{X: left + i%8, Y: above + i/8}] = true
		}
	}
}

// has is the eight by eight cells there.
func (p plane) has(left, above int) Tile {
	var t Tile
	for i := range 64 {
		if p[api.Cell{X: left + i%8, Y: above + i/8}] {
			t |= 1 << i
		}
	}
	return t
}

// about is how many of a cell's eight neighbours live.
func (p plane) about(c api.Cell) int {
	n := 0
	for y := c.Y - 1; y <= c.Y+1; y++ {
		for x := c.X - 1; x <= c.X+1; x++ {
			if at := (api.Cell{X: x, Y: y}); at != c && p[at] {
				n++
			}
		}
	}
	return n
}

// next is the plane one generation on. Nothing is born where no neighbour lives.
func (p plane) next(r rule.Rule) plane {
	on := plane{}
	for c := range p {
		for y := c.Y - 1; y <= c.Y+1; y++ {
			for x := c.X - 1; x <= c.X+1; x++ {
				at := api.Cell{X: x, Y: y}
				if becomes(r, p[at], p.about(at)) {
					on[at] = true
				}
			}
		}
	}
	return on
}

// grown is the plane so many generations on.
func (p plane) grown(r rule.Rule, n int) plane {
	for range n {
		p = p.next(r)
	}
	return p
}

// becomes is the chapter's word on one cell.
func becomes(r rule.Rule, lives bool, n int) bool {
	if lives {
		return r.Live>>n&1 == 1
	}
	return r.Born>>n&1 == 1
}

// laid is tiles side by side, so many in each row, from 0, 0 on.
func laid(tiles []Tile, wide int) plane {
	p := plane{}
	for i, t := range tiles {
		p.add(t, i%wide*8, i/wide*8)
	}
	return p
}

// alone is the tiles of a row-wise list in which one cell of all lives, x to the right, y down.
func alone(tiles []Tile, wide, x, y int) {
	tiles[y/8*wide+x/8] |= 1 << (y%8*8 + x%8)
}

const allLive = Tile(math.MaxUint64)

// someTile has about one of so many cells alive, or all but one of so many.
func someTile(c *chance.Chance, of int, most bool) Tile {
	var t Tile
	for i := range 64 {
		if (c.Below(of) == 0) != most {
			t |= 1 << i
		}
	}
	return t
}

// anyTile is one with few, with half, or with many cells.
func anyTile(c *chance.Chance) Tile { return someTile(c, 2+c.Below(8), c.Below(2) == 0) }

func fill(c *chance.Chance, tiles []Tile) {
	for i := range tiles {
		tiles[i] = anyTile(c)
	}
}

// anyRule is a rule that may be.
func anyRule(c *chance.Chance) rule.Rule {
	return rule.Rule{Born: uint16(c.Below(256)) * 2, Live: uint16(c.Below(512))}
}

var (
	life     = rule.Rule{Born: 8, Live: 12}
	nothing  = rule.Rule{}
	flooding = rule.Rule{Born: 0x1fe, Live: 0}
	filling  = rule.Rule{Born: 0x1fe, Live: 0x1ff}
	staying  = rule.Rule{Born: 0, Live: 0x1ff}
	spread   = rule.Rule{Born: 2, Live: 0}
	parity   = rule.Rule{Born: 0xaa, Live: 0xaa}
	someLaws = []rule.Rule{life, nothing, flooding, filling, staying, spread, parity, {Born: 1<<3 | 1<<6, Live: 12}, {Born: 4, Live: 0}, {Born: 1 << 8, Live: 1}}
)

// wrongLaws are rules that may not be: Born for 0, or a bit above 8, in one part or both.
func wrongLaws() []rule.Rule {
	l := []rule.Rule{{Born: 1}, {Born: 9, Live: 12}, {Born: 0x1ff, Live: 0x1ff}, {Born: 0xffff, Live: 0xffff}}
	for bit := 9; bit < 16; bit++ {
		high := uint16(1) << bit
		l = append(l, rule.Rule{Born: high}, rule.Rule{Live: high}, rule.Rule{Born: 8 | high, Live: 12}, rule.Rule{Born: 8, Live: 12 | high}, rule.Rule{Born: 1 | high, Live: high})
	}
	return l
}

func isError(err error, want api.Errno) bool {
	var number api.Errno
	return errors.As(err, &number) && number == want
}

// fails asks for an error, and for no tile beside it.
func fails(t *testing.T, what string, got Tile, err error, want api.Errno) {
	t.Helper()
	if got != 0 || !isError(err, want) {
		t.Fatalf("%s: %x, %v, want %v", what, got, err, want)
	}
}

// The model itself, by what is known of a few cells.
func TestPlane(t *testing.T) {
	glider := plane{{X: 1}: true, {X: 2, Y: 1}: true, {Y: 2}: true, {X: 1, Y: 2}: true, {X: 2, Y: 2}: true}
	on := glider.grown(life, 4)
	if len(on) != len(glider) {
		t.Fatalf("a glider of %d cells", len(on))
	}
	for c := range glider {
		if !on[api.Cell{X: c.X + 1, Y: c.Y + 1}] {
			t.Errorf("a glider without %v", c)
		}
	}
}
