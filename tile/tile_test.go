package tile

import (
	"math"
	"math/bits"
	"testing"

	"quilt/api"
	"quilt/chance"
)

// tiles are some with none, one, some and all cells alive.
func tiles() []Tile {
	l := []Tile{0, allLive, 1, 1 << 63, 1 << 7, 1 << 56, 0xff, 0xff << 56, 0x0101010101010101, 0x8080808080808080, 0x55aa55aa55aa55aa, 0xaa55aa55aa55aa55, 0x0123456789abcdef, 0x1818 << 24, allLive &^ 1, allLive >> 1}
	c := chance.Chance(9)
	for range 50 {
		l = append(l, anyTile(&c))
	}
	return l
}

// TI1: each of the 64 cells of tiles with none, some and all alive.
func TestGet(t *testing.T) {
	for _, tile := range tiles() {
		for y := range 8 {
			for x := range 8 {
				lives, err := Get(tile, x, y)
				if want := tile>>(8*y+x)%2 == 1; err != nil || lives != want {
					t.Fatalf("Get(%x, %d, %d): %v, %v, want %v", tile, x, y, lives, err, want)
				}
			}
		}
	}
}

// TI1: each of them, let live and not, whether it did or not; the others stay.
func TestSet(t *testing.T) {
	for _, tile := range tiles() {
		for y := range 8 {
			for x := range 8 {
				for _, lives := range []bool{false, true} {
					got, err := Set(tile, x, y, lives)
					if err != nil {
						t.Fatalf("Set(%x, %d, %d, %v): %v", tile, x, y, lives, err)
					}
					for i := range 64 {
						want := tile>>i&1 == 1
						if i == 8*y+x {
							want = lives
						}
						if got>>i&1 == 1 != want {
							t.Fatalf("Set(%x, %d, %d, %v): %x", tile, x, y, lives, got)
						}
					}
					if now, err := Get(got, x, y); err != nil || now != lives {
						t.Fatalf("Get behind Set(%x, %d, %d, %v): %v, %v", tile, x, y, lives, now, err)
					}
				}
			}
		}
	}
}

// outside are no places in a tile; cut to fewer bits, or counted together with another number, some of them were.
var outside = []int{-1, 8, -2, -7, -8, -9, 9, 15, 16, 55, 56, 63, 64, 65, -56, -63, -64, 255, 256, 1 << 16, 1 << 32, 1<<32 + 1, -1 << 32, 1 << 60, 1 << 61, 1 << 62, math.MaxInt, math.MaxInt - 7, math.MinInt, math.MinInt + 1}

// TI1: what lies outside of a tile, to one of its sides or to two.
func TestOutside(t *testing.T) {
	for _, tile := range []Tile{0, allLive, 0x55aa55aa55aa55aa} {
		for _, far := range outside {
			for _, other := range append([]int{0, 1, 2, 3, 4, 5, 6, 7}, outside...) {
				for _, at := range [][2]int{{far, other}, {other, far}} {
					if lives, err := Get(tile, at[0], at[1]); lives || !isError(err, api.ErrRange) {
						t.Fatalf("Get(%x, %v): %v, %v", tile, at, lives, err)
					}
					for _, lives := range []bool{false, true} {
						got, err := Set(tile, at[0], at[1], lives)
						fails(t, "Set", got, err, api.ErrRange)
					}
				}
			}
		}
	}
}

// TI1: none, all, and each number between.
func TestCount(t *testing.T) {
	if n := Count(0); n != 0 {
		t.Errorf("Count of none: %d", n)
	}
	if n := Count(allLive); n != 64 {
		t.Errorf("Count of all: %d", n)
	}
	var grows Tile
	for i := range 64 {
		if n := Count(1 << i); n != 1 {
			t.Errorf("Count of the cell %d: %d", i, n)
		}
		if n := Count(allLive &^ (1 << i)); n != 63 {
			t.Errorf("Count of all but the cell %d: %d", i, n)
		}
		grows |= 1 << (i * 37 % 64)
		if n := Count(grows); n != i+1 {
			t.Errorf("Count(%x): %d, want %d", grows, n, i+1)
		}
	}
	for _, tile := range tiles() {
		want := 0
		for i := range 64 {
			want += int(tile >> i & 1)
		}
		if n := Count(tile); n != want {
			t.Errorf("Count(%x): %d, want %d", tile, n, want)
		}
	}
}

// TI1: where each cell of a turned tile, and of a mirrored one, comes from.
func TestTurnFlip(t *testing.T) {
	for _, tile := range tiles() {
		turned, mirrored := Turn(tile), Flip(tile)
		for y := range 8 {
			for x := range 8 {
				if turned>>(8*y+x)&1 != tile>>(8*(7-x)+y)&1 {
					t.Fatalf("Turn(%x): %x at %d, %d", tile, turned, x, y)
				}
				if mirrored>>(8*y+x)&1 != tile>>(8*y+7-x)&1 {
					t.Fatalf("Flip(%x): %x at %d, %d", tile, mirrored, x, y)
				}
			}
		}
	}
}

// TI1: each cell alone, turned and mirrored.
func TestTurnFlipAlone(t *testing.T) {
	for y := range 8 {
		for x := range 8 {
			one := Tile(1) << (8*y + x)
			if got := Turn(one); got != 1<<(8*x+7-y) {
				t.Errorf("Turn of %d, %d: %x", x, y, got)
			}
			if got := Flip(one); got != 1<<(8*y+7-x) {
				t.Errorf("Flip of %d, %d: %x", x, y, got)
			}
		}
	}
}

// TI1: what is known at sight: rows, columns and corners.
func TestTurnFlipKnown(t *testing.T) {
	for _, k := range []struct{ t, turned, mirrored Tile }{
		{0, 0, 0},
		{allLive, allLive, allLive},
		{1, 1 << 7, 1 << 7},
		{1 << 7, 1 << 63, 1},
		{1 << 63, 1 << 56, 1 << 56},
		{1 << 56, 1, 1 << 63},
		{0xff, 0x8080808080808080, 0xff},
		{0x0101010101010101, 0xff, 0x8080808080808080},
		{0x8080808080808080, 0xff << 56, 0x0101010101010101},
		{0x8040201008040201, 0x0102040810204080, 0x0102040810204080},
		{0x07, 0x808080, 0xe0},
	} {
		if got := Turn(k.t); got != k.turned {
			t.Errorf("Turn(%x): %x, want %x", k.t, got, k.turned)
		}
		if got := Flip(k.t); got != k.mirrored {
			t.Errorf("Flip(%x): %x, want %x", k.t, got, k.mirrored)
		}
	}
}

// TI1: four quarters and two mirrors are none; a mirror turns the other way round.
func TestTurnFlipAgain(t *testing.T) {
	for _, tile := range tiles() {
		if got := Turn(Turn(Turn(Turn(tile)))); got != tile {
			t.Errorf("four quarters of %x: %x", tile, got)
		}
		if got := Flip(Flip(tile)); got != tile {
			t.Errorf("two mirrors of %x: %x", tile, got)
		}
		if got := Turn(Turn(tile)); got != Tile(bits.Reverse64(uint64(tile))) {
			t.Errorf("two quarters of %x: %x", tile, got)
		}
		if got := Flip(Turn(Flip(Turn(tile)))); got != tile {
			t.Errorf("%x, turned there and back: %x", tile, got)
		}
		if Count(Turn(tile)) != Count(tile) || Count(Flip(tile)) != Count(tile) {
			t.Errorf("%x has other cells when it is turned or mirrored", tile)
		}
	}
}

// A tile's rows can be left anywhere.
func TestRowsLeft(t *testing.T) {
	for stop := range 8 {
		seen := 0
		for y, row := range rows(0x8877665544332211) {
			if y != seen || row != uint32(0x11*(y+1)) {
				t.Errorf("row %d: %x", y, row)
			}
			if seen++; y == stop {
				break
			}
		}
		if seen != stop+1 {
			t.Errorf("%d rows up to the one %d down", seen, stop)
		}
	}
}
