package tile

import (
	"math"
	"testing"

	"quilt/api"
	"quilt/chance"
	"quilt/rule"
)

func growIs(t *testing.T, r rule.Rule, four [4]Tile, n int, want Tile) {
	t.Helper()
	before := four
	got, err := Grow(r, four, n)
	if err != nil || got != want {
		t.Fatalf("Grow(%x, %x, %d): %x, %v, want %x", r, four, n, got, err, want)
	}
	if four != before {
		t.Fatal("the four tiles are changed")
	}
}

// TI2: each cell of the four tiles alone, by 0 to 4 generations.
func TestGrowAlone(t *testing.T) {
	for y := range 16 {
		for x := range 16 {
			var four [4]Tile
			alone(four[:], 2, x, y)
			for _, r := range someLaws {
				p := laid(four[:], 2)
				for n := range 5 {
					growIs(t, r, four, n, p.has(4, 4))
					p = p.next(r)
				}
			}
		}
	}
}

// TI2: the cells at the very edge are felt in the middle four generations on, and not sooner; those nearer, sooner.
func TestGrowEdge(t *testing.T) {
	felt := map[int]int{}
	for y := range 16 {
		for x := range 16 {
			var four [4]Tile
			alone(four[:], 2, x, y)
			far := max(4-x, x-11, 4-y, y-11, 0)
			for n := range 5 {
				got, err := Grow(filling, four, n)
				if err != nil || got != 0 != (n >= far) {
					t.Fatalf("Grow of the cell %d, %d by %d: %x, %v", x, y, n, got, err)
				}
			}
			felt[far]++
		}
	}
	if felt[4] != 60 || felt[0] != 64 {
		t.Errorf("so many cells are so far: %v", felt)
	}
}

// TI2: any four tiles, by any rule, whatever lies outside of them.
func TestGrowAny(t *testing.T) {
	c := chance.Chance(5)
	for i := range 160 {
		r := anyRule(&c)
		if i%4 == 0 {
			r = someLaws[i/4%len(someLaws)]
		}
		var tiles [16]Tile
		fill(&c, tiles[:])
		four := [4]Tile{tiles[5], tiles[6], tiles[9], tiles[10]}
		inside, outside := laid(four[:], 2), laid(tiles[:], 4)
		for n := range 5 {
			growIs(t, r, four, n, outside.has(12, 12))
			growIs(t, r, four, n, inside.has(4, 4))
			inside, outside = inside.next(r), outside.next(r)
		}
	}
}

// TI2: whatever lies further than n from the middle does not matter, by n generations.
func TestGrowFarAway(t *testing.T) {
	c := chance.Chance(6)
	for range 200 {
		r := anyRule(&c)
		var four [4]Tile
		fill(&c, four[:])
		for n := range 4 {
			want, err := Grow(r, four, n)
			if err != nil {
				t.Fatal(err)
			}
			other := four
			for y := range 16 {
				for x := range 16 {
					if max(4-x, x-11, 4-y, y-11) > n && c.Below(2) == 0 {
						other[y/8*2+x/8] ^= 1 << (y%8*8 + x%8)
					}
				}
			}
			growIs(t, r, other, n, want)
		}
	}
}

// TI2: no generations are the middle; by a rule by which none lives on, nothing is left.
func TestGrowNone(t *testing.T) {
	c := chance.Chance(7)
	for range 200 {
		var four [4]Tile
		fill(&c, four[:])
		growIs(t, anyRule(&c), four, 0, Middle(four))
		growIs(t, nothing, four, 0, Middle(four))
		for n := 1; n < 5; n++ {
			growIs(t, nothing, four, n, 0)
			growIs(t, staying, four, n, Middle(four))
		}
	}
}

// TI2: all full and all empty; by a rule by which many are born, and none lives on.
func TestGrowFullEmpty(t *testing.T) {
	full := [4]Tile{allLive, allLive, allLive, allLive}
	for n := range 5 {
		for _, r := range someLaws {
			growIs(t, r, [4]Tile{}, n, 0)
		}
		growIs(t, filling, full, n, allLive)
	}
	growIs(t, flooding, full, 0, allLive)
	growIs(t, flooding, full, 1, 0)
	growIs(t, life, full, 1, 0)
	// Of a cell in the midst all about are born, and it dies; then those about them, and it.
	one := [4]Tile{1 << 63}
	growIs(t, flooding, one, 1, 0x1c141c<<16)
	growIs(t, flooding, one, 2, 0x3e22_2a_22_3e<<8)
}

// TI2: a block stays; a row of three is a column, and a row again.
func TestGrowKnown(t *testing.T) {
	for n := range 5 {
		block := [4]Tile{1 << 63, 1 << 56, 1 << 7, 1}
		growIs(t, life, block, n, 0x1818<<24)
		row := [4]Tile{3 << 62, 1 << 56}
		if n%2 == 0 {
			growIs(t, life, row, n, 0x1c<<24)
		} else {
			growIs(t, life, row, n, 0x080808<<16)
		}
	}
}

// noNumbers are no numbers of generations; cut to fewer bits some of them were.
var noNumbers = []int{-1, 5, -2, -3, -4, -5, 6, 7, 8, 12, 16, 32, 64, 256, 257, 1 << 16, 1 << 32, 1<<32 + 1, math.MaxInt, math.MinInt, math.MinInt + 2}

// TI2: numbers that may not be.
func TestGrowNoNumber(t *testing.T) {
	for _, r := range someLaws {
		for _, four := range [][4]Tile{{}, {allLive, allLive, allLive, allLive}, {1 << 63, 1 << 56, 1 << 7, 1}} {
			for _, n := range noNumbers {
				got, err := Grow(r, four, n)
				fails(t, "Grow", got, err, api.ErrArg)
			}
		}
	}
}

// TI2: a rule that may not be is told first, whatever the number is.
func TestGrowWrongRule(t *testing.T) {
	for _, r := range wrongLaws() {
		for _, four := range [][4]Tile{{}, {allLive, allLive, allLive, allLive}} {
			for _, n := range append([]int{0, 1, 2, 3, 4}, noNumbers...) {
				got, err := Grow(r, four, n)
				fails(t, "Grow", got, err, api.ErrRule)
			}
		}
	}
}

// Rule 4: the same tells the same again, whatever was asked in between.
func TestSameAgain(t *testing.T) {
	four, nine := [4]Tile{1 << 63, 1 << 56, 1 << 7, 1}, [9]Tile{4: 0x1818 << 24}
	for range 3 {
		growIs(t, life, four, 4, 0x1818<<24)
		growIs(t, filling, four, 4, allLive)
		nextIs(t, life, nine)
		got, err := Grow(rule.Rule{Born: 1}, four, 9)
		fails(t, "Grow", got, err, api.ErrRule)
		nextIs(t, filling, nine)
	}
}
