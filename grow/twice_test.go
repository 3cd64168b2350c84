package grow

import (
	"slices"
	"testing"

	"quilt/api"
	"quilt/chance"
	"quilt/rule"
)

// twiceIs asks that what goes on by 2^j, and then again, is what goes on by 2^(j+1): the middle of that, since going on takes a quarter of the width each time.
func twiceIs(t *testing.T, g *Grower, id, j int) {
	t.Helper()
	got := must(t)(g.Grow(must(t)(g.Grow(id, j)), j))
	if want := must(t)(g.Center(must(t)(g.Grow(id, j+1)))); got != want {
		t.Fatalf("by 2^%d twice: %d, want %d", j, got, want)
	}
}

// GW3: any squares of the levels 5 to 8, by several rules, each j.
func TestTwice(t *testing.T) {
	c := chance.Chance(10)
	for _, r := range append(slices.Clone(someLaws), anyRule(&c), anyRule(&c), anyRule(&c)) {
		for level := 5; level <= 8; level++ {
			s := storeOf(t, 65536)
			id := s.lay(anySheet(&c, 1<<level))
			before := s.tells()
			for j := range level - 2 {
				// Each by a Grower of its own, and then all by one: what is remembered is the same.
				twiceIs(t, s.grower(r), id, j)
			}
			g := s.grower(r)
			for j := level - 3; j >= 0; j-- {
				twiceIs(t, g, id, j)
			}
			s.keeps("Grow", before)
		}
	}
}

// GW3: two Growers of two stores tell the same cells of once and twice.
func TestTwiceApart(t *testing.T) {
	c := chance.Chance(11)
	for range 20 {
		p, r := anySheet(&c, 64), anyRule(&c)
		for j := range 4 {
			first, second := storeOf(t, 65536), storeOf(t, 65536)
			g, other := first.grower(r), second.grower(r)
			twice := must(t)(g.Grow(must(t)(g.Grow(first.lay(p), j)), j))
			once := must(t)(other.Center(must(t)(other.Grow(second.lay(p), j+1))))
			second.is("once and twice", once, nil, 4, first.cells(twice))
		}
	}
}

// GW3: made wide first, so that nothing comes to the sides, all cells are there: by each j twice.
func TestTwiceWide(t *testing.T) {
	c := chance.Chance(12)
	for range 20 {
		r := anyRule(&c)
		s := storeOf(t, 65536)
		id := s.lay(anySheet(&c, 16))
		g := s.grower(r)
		l := moved(s.cells(id), 56, 56)
		for range 3 {
			id = must(t)(g.Wide(id))
		}
		for n := 1; n <= 32; n++ {
			l = generation(r, l)
			for j := range 5 {
				if n == 2<<j {
					twiceIs(t, g, id, j)
					got, err := g.Grow(id, j+1)
					s.is("Grow of a wide one", got, err, 6, middleOf(l, 7))
				}
			}
		}
	}
}

// GW3: far on, in squares of each level; and by two different j in either order.
func TestTwiceFar(t *testing.T) {
	for level := 6; level <= 40; level++ {
		half := 1 << (level - 1)
		few := moved(glider, half, half)
		many := slices.Concat(few, moved(block, half-7, half+3), moved(turned(glider, -1, 1), 3*half/2-3, half/2+9), []api.Cell{{X: half / 2, Y: half}})
		for _, k := range []struct {
			r rule.Rule
			l []api.Cell
		}{{life, many}, {parity, few}} {
			s := storeOf(t, 65536)
			g := s.grower(k.r)
			id := s.put(level, k.l)
			for _, j := range []int{0, 1, level / 2, level - 4, level - 3} {
				twiceIs(t, g, id, j)
			}
			for _, j := range []int{1, level / 2, level - 3} {
				first := must(t)(g.Grow(must(t)(g.Grow(id, 0)), j))
				if then := must(t)(g.Grow(must(t)(g.Grow(id, j)), 0)); then != first {
					t.Fatalf("in level %d by 1 and by 2^%d: %d, and the other way about %d", level, j, first, then)
				}
			}
		}
	}
}
