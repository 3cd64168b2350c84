package tile

import (
	"testing"

	"quilt/api"
	"quilt/chance"
	"quilt/rule"
)

// TI2: each cell of four tiles alone, and all but that.
func TestMiddleAlone(t *testing.T) {
	for y := range 16 {
		for x := range 16 {
			var one, all [4]Tile
			alone(one[:], 2, x, y)
			for i := range one {
				all[i] = ^one[i]
			}
			var want Tile
			if x >= 4 && x < 12 && y >= 4 && y < 12 {
				want = 1 << ((y-4)*8 + x - 4)
			}
			if got := Middle(one); got != want {
				t.Errorf("Middle of the cell %d, %d: %x, want %x", x, y, got, want)
			}
			if got := Middle(all); got != ^want {
				t.Errorf("Middle of all but the cell %d, %d: %x, want %x", x, y, got, ^want)
			}
		}
	}
}

// TI2: four tiles with one cell each, in each of their corners: where all four meet it is seen, elsewhere not.
func TestMiddleCorners(t *testing.T) {
	corners := [4]Tile{1, 1 << 7, 1 << 56, 1 << 63}
	inner := [4]Tile{1 << 63, 1 << 56, 1 << 7, 1}
	seen := [4]Tile{1 << (3*8 + 3), 1 << (3*8 + 4), 1 << (4*8 + 3), 1 << (4*8 + 4)}
	for choice := range 256 {
		var four [4]Tile
		var want Tile
		for i := range four {
			four[i] = corners[choice>>(2*i)%4]
			if four[i] == inner[i] {
				want |= seen[i]
			}
		}
		if got := Middle(four); got != want {
			t.Errorf("Middle(%x): %x, want %x", four, got, want)
		}
	}
}

// TI2: any four tiles.
func TestMiddleAny(t *testing.T) {
	c := chance.Chance(1)
	for range 500 {
		var four [4]Tile
		fill(&c, four[:])
		if got, want := Middle(four), laid(four[:], 2).has(4, 4); got != want {
			t.Fatalf("Middle(%x): %x, want %x", four, got, want)
		}
	}
}

func nextIs(t *testing.T, r rule.Rule, nine [9]Tile) {
	t.Helper()
	before := nine
	got, err := Next(r, nine)
	if want := laid(nine[:], 3).next(r).has(8, 8); err != nil || got != want {
		t.Fatalf("Next(%x, %x): %x, %v, want %x", r, nine, got, err, want)
	}
	if nine != before {
		t.Fatal("the nine tiles are changed")
	}
}

// TI2: each cell of the nine tiles alone: those next to the middle one are its neighbours, those further away are not.
func TestNextAlone(t *testing.T) {
	for y := range 24 {
		for x := range 24 {
			var one [9]Tile
			alone(one[:], 3, x, y)
			for _, r := range someLaws {
				nextIs(t, r, one)
			}
		}
	}
}

// TI2: all cells but one.
func TestNextAllButOne(t *testing.T) {
	for _, r := range []rule.Rule{{Live: 1 << 8}, {Born: 1 << 8, Live: 1 << 7}, {Born: 1 << 8}} {
		for y := range 24 {
			for x := range 24 {
				var tiles [9]Tile
				alone(tiles[:], 3, x, y)
				var want Tile
				for cy := range 8 {
					for cx := range 8 {
						n, dx, dy := 8, x-(cx+8), y-(cy+8)
						here := dx == 0 && dy == 0
						if !here && max(dx, -dx, dy, -dy) == 1 {
							n = 7
						}
						if becomes(r, !here, n) {
							want |= 1 << (cy*8 + cx)
						}
					}
				}
				for i := range tiles {
					tiles[i] = ^tiles[i]
				}
				if got, err := Next(r, tiles); err != nil || got != want {
					t.Fatalf("Next(%x) of all but %d, %d: %x, %v, want %x", r, x, y, got, err, want)
				}
			}
		}
	}
}

// TI2: at each cell each of the neighbourhoods that there are, by the rule that has the bit for it alone, and by the one that has all but that.
func TestNextEveryNeighbourhood(t *testing.T) {
	for at := range 64 {
		for around := range 512 {
			var nine [9]Tile
			lives, n := false, 0
			for i := range 9 {
				if around>>i&1 == 0 {
					continue
				}
				alone(nine[:], 3, at%8+7+i%3, at/8+7+i/3)
				if i == 4 {
					lives = true
				} else {
					n++
				}
			}
			just := rule.Rule{Born: 1 << n &^ 1}
			but := rule.Rule{Born: 0x1fe &^ just.Born, Live: 0x1ff}
			if lives {
				just = rule.Rule{Live: 1 << n}
				but = rule.Rule{Born: 0x1fe, Live: 0x1ff &^ just.Live}
			}
			got, err := Next(just, nine)
			if err != nil || got>>at&1 == 1 != (lives || n > 0) {
				t.Fatalf("Next(%x) of %d about %d: %x, %v", just, around, at, got, err)
			}
			got, err = Next(but, nine)
			if err != nil || got>>at&1 == 1 {
				t.Fatalf("Next(%x) of %d about %d: %x, %v", but, around, at, got, err)
			}
		}
	}
}

// kind is what a cell's next generation hangs on.
type kind struct {
	lives bool
	n     int
}

// kindsOf are those of the middle one's cells, and how many different ones there are.
func kindsOf(nine [9]Tile) ([64]kind, int) {
	p := laid(nine[:], 3)
	var cells [64]kind
	there := map[kind]bool{}
	for i := range cells {
		at := api.Cell{X: 8 + i%8, Y: 8 + i/8}
		cells[i] = kind{p[at], p.about(at)}
		there[cells[i]] = true
	}
	return cells, len(there)
}

// TI2: each rule that may be, at nine tiles in which there are cells with each number of neighbours, some that live, and some that do not.
func TestNextEveryRule(t *testing.T) {
	c := chance.Chance(2)
	var nine [9]Tile
	cells, kinds := kindsOf(nine)
	for kinds < 18 {
		fill(&c, nine[:])
		const left = 0x0f0f0f0f0f0f0f0f
		nine[4] = someTile(&c, 6, false)&left | someTile(&c, 6, true)&^left
		cells, kinds = kindsOf(nine)
	}
	for born := range uint16(256) {
		for live := range uint16(512) {
			r := rule.Rule{Born: born * 2, Live: live}
			var want Tile
			for i, c := range cells {
				if becomes(r, c.lives, c.n) {
					want |= 1 << i
				}
			}
			if got, err := Next(r, nine); err != nil || got != want {
				t.Fatalf("Next(%x): %x, %v, want %x", r, got, err, want)
			}
		}
	}
}

// TI2: any nine tiles, by any rule.
func TestNextAny(t *testing.T) {
	c := chance.Chance(3)
	for range 400 {
		var nine [9]Tile
		fill(&c, nine[:])
		nextIs(t, anyRule(&c), nine)
		nextIs(t, life, nine)
	}
}

// TI2: whatever lies further than one cell from the middle one does not matter.
func TestNextFarAway(t *testing.T) {
	c := chance.Chance(4)
	for range 300 {
		r := anyRule(&c)
		var nine [9]Tile
		fill(&c, nine[:])
		want, err := Next(r, nine)
		if err != nil {
			t.Fatal(err)
		}
		other := nine
		for y := range 24 {
			for x := range 24 {
				if (x < 7 || x > 16 || y < 7 || y > 16) && c.Below(2) == 0 {
					other[y/8*3+x/8] ^= 1 << (y%8*8 + x%8)
				}
			}
		}
		if got, err := Next(r, other); err != nil || got != want {
			t.Fatalf("Next(%x) of %x: %x, %v; of %x: %x", r, other, got, err, nine, want)
		}
	}
}

// TI2: all full, and all empty, by rules of many, and of none.
func TestNextFullEmpty(t *testing.T) {
	var empty, full [9]Tile
	for i := range full {
		full[i] = allLive
	}
	for _, r := range someLaws {
		if got, err := Next(r, empty); err != nil || got != 0 {
			t.Errorf("Next(%x) of none: %x, %v", r, got, err)
		}
		want := Tile(0)
		if r.Live>>8 == 1 {
			want = allLive
		}
		if got, err := Next(r, full); err != nil || got != want {
			t.Errorf("Next(%x) of all: %x, %v, want %x", r, got, err, want)
		}
	}
	full[4] = 0
	if got, err := Next(flooding, full); err != nil || got != 0x00ffffffffffff00&0x7e7e7e7e7e7e7e7e^allLive {
		t.Errorf("born at the edges, of all about: %x, %v", got, err)
	}
}

// TI2: what is known at sight: a row of three and a block, also across tiles.
func TestNextKnown(t *testing.T) {
	row, column := [][2]int{{-1, 0}, {0, 0}, {1, 0}}, [][2]int{{0, -1}, {0, 0}, {0, 1}}
	block := [][2]int{{0, 0}, {1, 0}, {0, 1}, {1, 1}}
	for y := 6; y < 18; y++ {
		for x := 6; x < 18; x++ {
			for _, k := range []struct{ now, then [][2]int }{{row, column}, {column, row}, {block, block}} {
				var now, then [9]Tile
				for _, d := range k.now {
					alone(now[:], 3, x+d[0], y+d[1])
				}
				for _, d := range k.then {
					alone(then[:], 3, x+d[0], y+d[1])
				}
				if got, err := Next(life, now); err != nil || got != then[4] {
					t.Errorf("Next of %v at %d, %d: %x, %v, want %x", k.now, x, y, got, err, then[4])
				}
			}
		}
	}
}

// TI2: a rule that may not be, whatever the tiles are.
func TestNextWrongRule(t *testing.T) {
	var full [9]Tile
	for i := range full {
		full[i] = allLive
	}
	for _, r := range wrongLaws() {
		for _, nine := range [][9]Tile{{}, full, {4: 0x1818 << 24}} {
			got, err := Next(r, nine)
			fails(t, "Next", got, err, api.ErrRule)
		}
	}
}
