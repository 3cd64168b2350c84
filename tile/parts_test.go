package tile

import (
	"testing"

	"quilt/chance"
	"quilt/rule"
)

// fourOf are the four tiles of nine whose left one above is so many to the right, and down.
func fourOf(nine [9]Tile, right, down int) [4]Tile {
	at := 3*down + right
	return [4]Tile{nine[at], nine[at+1], nine[at+3], nine[at+4]}
}

// inner are the middles of the four that nine tiles have: sixteen by sixteen cells in the midst of them, so many generations on.
func inner(t *testing.T, r rule.Rule, nine [9]Tile, n int) [4]Tile {
	t.Helper()
	var four [4]Tile
	for i := range four {
		var err error
		if four[i], err = Grow(r, fourOf(nine, i%2, i/2), n); err != nil {
			t.Fatal(err)
		}
	}
	return four
}

// TI3: Grow of some and then more generations is that of all; and of more than four together it is what all cells come to.
func TestGrowInParts(t *testing.T) {
	c := chance.Chance(8)
	for i := range 150 {
		r := anyRule(&c)
		if i%3 == 0 {
			r = someLaws[i/3%len(someLaws)]
		}
		var nine [9]Tile
		fill(&c, nine[:])
		p := laid(nine[:], 3)
		var on [9]Tile
		for n := range on {
			on[n], p = p.has(8, 8), p.next(r)
		}
		for first := range 5 {
			four := inner(t, r, nine, first)
			for more := range 5 {
				growIs(t, r, four, more, on[first+more])
				if first+more <= 4 {
					growIs(t, r, inner(t, r, nine, 0), first+more, on[first+more])
				}
			}
		}
	}
}

// TI2, TI3: Next of nine is Grow of what lies about the middle one by one generation; and once with Next, then with Grow, is that of all.
func TestNextThenGrow(t *testing.T) {
	c := chance.Chance(9)
	for range 100 {
		r := anyRule(&c)
		var nine [9]Tile
		fill(&c, nine[:])
		want, err := Next(r, nine)
		if err != nil {
			t.Fatal(err)
		}
		growIs(t, r, inner(t, r, nine, 0), 1, want)
		var wide [16]Tile // four by four: each of the four in its midst has all of its nine
		fill(&c, wide[:])
		var on [4]Tile
		for i := range on {
			at := i/2*4 + i%2
			var about [9]Tile
			for j := range about {
				about[j] = wide[at+j/3*4+j%3]
			}
			if on[i], err = Next(r, about); err != nil {
				t.Fatal(err)
			}
		}
		four := [4]Tile{wide[5], wide[6], wide[9], wide[10]}
		for n := range 4 {
			want, err := Grow(r, four, n+1)
			if err != nil {
				t.Fatal(err)
			}
			growIs(t, r, on, n, want)
		}
	}
}

// turned are tiles, so many in each row and as many rows, turned by a quarter as a whole.
func turned(tiles []Tile, wide int) []Tile {
	l := make([]Tile, len(tiles))
	for i := range l {
		x, y := i%wide, i/wide
		l[i] = Turn(tiles[(wide-1-x)*wide+y])
	}
	return l
}

// mirrored are such, mirrored as a whole.
func mirrored(tiles []Tile, wide int) []Tile {
	l := make([]Tile, len(tiles))
	for i := range l {
		x, y := i%wide, i/wide
		l[i] = Flip(tiles[y*wide+wide-1-x])
	}
	return l
}

// TI3: turned, or mirrored tiles go on as turned, or mirrored ones.
func TestTurnedGoOn(t *testing.T) {
	c := chance.Chance(10)
	for i := range 500 {
		r := anyRule(&c)
		if i%3 == 0 {
			r = someLaws[i/3%len(someLaws)]
		}
		var four [4]Tile
		fill(&c, four[:])
		for n := range 5 {
			got, err := Grow(r, four, n)
			if err != nil {
				t.Fatal(err)
			}
			growIs(t, r, [4]Tile(turned(four[:], 2)), n, Turn(got))
			growIs(t, r, [4]Tile(mirrored(four[:], 2)), n, Flip(got))
			growIs(t, r, [4]Tile(turned(mirrored(four[:], 2), 2)), n, Turn(Flip(got)))
		}
		var nine [9]Tile
		fill(&c, nine[:])
		got, err := Next(r, nine)
		if err != nil {
			t.Fatal(err)
		}
		for _, k := range []struct {
			tiles []Tile
			want  Tile
		}{
			{turned(nine[:], 3), Turn(got)},
			{mirrored(nine[:], 3), Flip(got)},
			{turned(turned(nine[:], 3), 3), Turn(Turn(got))},
			{mirrored(turned(nine[:], 3), 3), Flip(Turn(got))},
		} {
			if then, err := Next(r, [9]Tile(k.tiles)); err != nil || then != k.want {
				t.Fatalf("Next(%x, %x): %x, %v, want %x", r, k.tiles, then, err, k.want)
			}
		}
	}
}

// TI1, TI3: four tiles that are turned as a whole have the middle turned.
func TestTurnedMiddle(t *testing.T) {
	c := chance.Chance(11)
	for range 500 {
		var four [4]Tile
		fill(&c, four[:])
		if got, want := Middle([4]Tile(turned(four[:], 2))), Turn(Middle(four)); got != want {
			t.Fatalf("the middle of %x, turned: %x, want %x", four, got, want)
		}
		if got, want := Middle([4]Tile(mirrored(four[:], 2))), Flip(Middle(four)); got != want {
			t.Fatalf("the middle of %x, mirrored: %x, want %x", four, got, want)
		}
	}
}
