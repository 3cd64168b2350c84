package grow

import (
	"math"
	"slices"
	"testing"

	"quilt/api"
	"quilt/chance"
	"quilt/rule"
	"quilt/tile"
)

// growIs holds Grow of a square of any cells by each j against the cells gone over one generation at a time, with nothing about the square, and with something.
func growIs(t *testing.T, c *chance.Chance, r rule.Rule, p sheet) {
	t.Helper()
	s := storeOf(t, 65536)
	id := s.lay(p)
	before := s.tells()
	g := s.grower(r)
	quarter := p.width / 4
	margin := 1 + c.Below(5)
	about := anySheet(c, p.width+2*margin)
	for i, lives := range p.lives {
		about.lives[(i/p.width+margin)*about.width+i%p.width+margin] = lives
	}
	for n, j := 1, 0; n <= quarter; n++ {
		p, about = p.next(r), about.next(r)
		if n != 1<<j {
			continue
		}
		want := p.cut(quarter, 2*quarter)
		if other := about.cut(quarter+margin, 2*quarter); !slices.Equal(want.lives, other.lives) {
			t.Fatal("what lies about the square is felt in its middle")
		}
		got, err := g.Grow(id, j)
		s.isSheet("Grow", got, err, want)
		if same := s.lay(want); same != got {
			t.Fatalf("Grow: %d, and the square with its cells is %d", got, same)
		}
		j++
	}
	s.keeps("Grow", before)
}

// GW2: squares of the levels 4 to 6, by several rules and by any, each j, cell by cell.
func TestGrow(t *testing.T) {
	c := chance.Chance(3)
	for _, r := range append(slices.Clone(someLaws), anyRule(&c), anyRule(&c), anyRule(&c), anyRule(&c)) {
		for i := range 12 {
			growIs(t, &c, r, anySheet(&c, 16<<(i%3)))
		}
	}
}

// GW2: each of the rules of B3 and S23 with one number more or less.
func TestGrowNearLaws(t *testing.T) {
	c := chance.Chance(4)
	for n := range 9 {
		for _, r := range []rule.Rule{{Born: life.Born ^ 1<<n, Live: life.Live}, {Born: life.Born, Live: life.Live ^ 1<<n}} {
			if rule.Check(r) == nil {
				growIs(t, &c, r, anySheet(&c, 16))
				growIs(t, &c, r, anySheet(&c, 32))
			}
		}
	}
}

// GW2: one square of level 8, 64 generations on.
func TestGrowWide(t *testing.T) {
	c := chance.Chance(5)
	growIs(t, &c, life, anySheet(&c, 256))
}

// GW2: a cell alone, at each place of a square of level 4 and 5: of B1 it is felt as far away as it can be.
func TestGrowEach(t *testing.T) {
	for _, r := range []rule.Rule{spread, filling} {
		for _, level := range []int{4, 5} {
			s := storeOf(t, 65536)
			g := s.grower(r)
			for i := range 1 << (2 * level) {
				l := []api.Cell{{X: i % (1 << level), Y: i >> level}}
				id := s.put(level, l)
				for n, j := 1, 0; j <= level-2; n++ {
					l = generation(r, l)
					if n == 1<<j {
						got, err := g.Grow(id, j)
						s.is("Grow", got, err, level-1, middleOf(l, level))
						j++
					}
				}
			}
		}
	}
}

// GW2: squares of each level, with each j that can be, and with what can't: below 0, one too far, far too far.
func TestGrowNumbers(t *testing.T) {
	for level := 3; level <= 40; level++ {
		s := storeOf(t, 65536)
		g := s.grower(life)
		id := s.put(level, moved(block, 1<<(level-1)-1, 1<<(level-1)-1))
		if level == 3 {
			for _, j := range append([]int{0, 1, 2, 3}, farAway...) {
				got, err := g.Grow(id, j)
				fails(t, "Grow of a tile", got, err, api.ErrArg)
			}
			continue
		}
		for _, j := range []int{0, level - 2, level / 2} {
			got, err := g.Grow(id, j)
			s.is("Grow", got, err, level-1, moved(block, 1<<(level-2)-1, 1<<(level-2)-1))
		}
		before, known := s.tells(), g.Known()
		for _, j := range append([]int{level - 1, level, level + 1, -level}, farAway...) {
			got, err := g.Grow(id, j)
			fails(t, "Grow by what can't be", got, err, api.ErrArg)
			for _, away := range []int{0, -1, s.Len() + 1, math.MinInt, math.MaxInt} {
				got, err = g.Grow(away, j)
				fails(t, "Grow of none by what can't be", got, err, api.ErrNone)
			}
		}
		s.stays("Grow by what can't be", before)
		if g.Known() != known {
			t.Errorf("Known behind errors: %d, and was %d", g.Known(), known)
		}
	}
}

// GW2: nothing comes of nothing, by each j, in squares of each level; and no square more is made than there is.
func TestNothing(t *testing.T) {
	for _, r := range someLaws {
		s := storeOf(t, 38)
		must(t)(s.Empty(40))
		g := s.grower(r)
		for level := 4; level <= 40; level++ {
			for j := range level - 1 {
				if got, err := g.Grow(level-2, j); got != level-3 || err != nil {
					t.Fatalf("Grow of nothing, of level %d by %d: %d, %v, want %d", level, j, got, err, level-3)
				}
			}
		}
		if s.Len() != 38 {
			t.Errorf("squares of nothing: %d", s.Len())
		}
	}
}

// GW2: by a rule by which all stays, or none does, it is the middle, or nothing, however far.
func TestPlainLaws(t *testing.T) {
	c := chance.Chance(6)
	for level := 4; level <= 6; level++ {
		s := storeOf(t, 65536)
		still, gone := s.grower(staying), s.grower(nothing)
		id := s.lay(anySheet(&c, 1<<level))
		middle, empty := must(t)(still.Center(id)), must(t)(s.Empty(level-1))
		for j := range level - 1 {
			if got, err := still.Grow(id, j); got != middle || err != nil {
				t.Errorf("where all stays: %d, %v, want %d", got, err, middle)
			}
			if got, err := gone.Grow(id, j); got != empty || err != nil {
				t.Errorf("where none stays: %d, %v, want %d", got, err, empty)
			}
		}
	}
}

// GW2: where all are born, of one cell there is a square of cells that goes as far as it can.
func TestFilling(t *testing.T) {
	for level := 4; level <= 40; level++ {
		s := storeOf(t, 65536)
		g := s.grower(filling)
		at := 1 << (level - 1)
		id := s.put(level, []api.Cell{{X: at, Y: at}})
		for _, j := range []int{0, level - 3, level - 2} {
			got, err := g.Grow(id, j)
			if err != nil {
				t.Fatal(err)
			}
			low, high := at/2-1<<j, at/2+1<<j
			for _, x := range []int{low - 1, low, at / 2, high, high + 1} {
				for _, y := range []int{low - 1, low, at / 2, high, high + 1} {
					if min(x, y) < 0 || max(x, y) >= at {
						continue
					}
					want := min(x, y) >= low && max(x, y) <= high
					if lives, err := s.Get(got, x, y); lives != want || err != nil {
						t.Fatalf("of one cell, in level %d by %d, at %d, %d: %v, %v", level, j, x, y, lives, err)
					}
				}
			}
			width := min(high, at-1) - low + 1
			want := math.MaxInt
			if width < 1<<31 {
				want = width * width
			}
			if n, err := s.Count(got); n != min(want, 1<<62) || err != nil {
				t.Errorf("of one cell, in level %d by %d: %d, %v", level, j, n, err)
			}
		}
	}
}

// GW2: two Growers of one store, by two rules, asked by turns: what one remembers is not the other's.
func TestLawsApart(t *testing.T) {
	c := chance.Chance(7)
	for range 10 {
		p := anySheet(&c, 32)
		s := storeOf(t, 65536)
		id := s.lay(p)
		laws := []rule.Rule{life, parity, {Born: 8, Live: 8}, {Born: 12, Live: 12}, anyRule(&c)}
		growers := make([]*Grower, len(laws))
		for i, r := range laws {
			growers[i] = s.grower(r)
		}
		for again := range 2 {
			for j := 3 * again; j >= 0 && j <= 3; j += 1 - 2*again {
				for i, r := range laws {
					on := p
					for range 1 << j {
						on = on.next(r)
					}
					got, err := growers[i].Grow(id, j)
					s.isSheet("Grow", got, err, on.cut(8, 16))
				}
			}
		}
	}
}

// GW2: each j of one square is told apart from the others, in whatever order they are asked; and from those of other squares.
func TestAnyOrder(t *testing.T) {
	c := chance.Chance(8)
	var sheets []sheet
	s := storeOf(t, 65536)
	g := s.grower(life)
	var ids []int
	for range 6 {
		sheets = append(sheets, anySheet(&c, 32))
		ids = append(ids, s.lay(sheets[len(sheets)-1]))
	}
	answers := map[[2]int]int{}
	for range 200 {
		i, j := c.Below(len(ids)), c.Below(4)
		on := sheets[i]
		for range 1 << j {
			on = on.next(life)
		}
		got, err := g.Grow(ids[i], j)
		s.isSheet("Grow", got, err, on.cut(8, 16))
		if before, there := answers[[2]int{i, j}]; there && before != got {
			t.Fatalf("Grow, asked again: %d, and was %d", got, before)
		}
		answers[[2]int{i, j}] = got
		must(t)(s.Leaf(tile.Tile(c.Below(1 << 30)))) // what others make in between is not felt
	}
}

// Rule 4: the same calls of two stores tell the same, whatever else a third one is asked.
func TestSameAgain(t *testing.T) {
	run := func() []int {
		c := chance.Chance(9)
		s := storeOf(t, 65536)
		g := s.grower(life)
		var l []int
		for range 20 {
			id := s.lay(anySheet(&c, 64))
			l = append(l, must(t)(g.Grow(id, c.Below(5))), must(t)(g.Center(id)), must(t)(g.Wide(id)), g.Known(), s.Len())
		}
		return l
	}
	first := run()
	for range 2 {
		if again := run(); !slices.Equal(again, first) {
			t.Fatalf("the same calls: %v, and before %v", again, first)
		}
	}
}
