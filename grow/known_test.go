package grow

import (
	"testing"

	"quilt/chance"
	"quilt/rule"
	"quilt/tile"
)

// canBeKnown is how many squares and numbers j there are in a store that Grow can be asked for.
func (s store) canBeKnown() int {
	s.t.Helper()
	n := 0
	for id := 1; id <= s.Len(); id++ {
		if level := s.level(id); level > 3 {
			n += level - 1
		}
	}
	return n
}

// GW2: nothing is known at first, nor behind Center and Wide; behind each Grow one is at least, and no more than can be.
func TestKnown(t *testing.T) {
	c := chance.Chance(13)
	for level := 4; level <= 7; level++ {
		s := storeOf(t, 65536)
		g := s.grower(life)
		id := s.lay(anySheet(&c, 1<<level))
		for _, ask := range []func(int) (int, error){g.Center, g.Wide} {
			if must(t)(ask(id)); g.Known() != 0 {
				t.Errorf("Known without a Grow: %d", g.Known())
			}
		}
		for j := range level - 1 {
			must(t)(g.Grow(id, j))
			if n := g.Known(); n < 1 || n > s.canBeKnown() {
				t.Errorf("Known behind Grow: %d, of %d that can be", n, s.canBeKnown())
			}
		}
		if n := s.grower(life).Known(); n != 0 {
			t.Errorf("Known of another Grower: %d", n)
		}
	}
}

// GW2: the same asked twice is the same answer; nothing is made, and nothing more is known.
func TestAskedTwice(t *testing.T) {
	c := chance.Chance(14)
	for level := 4; level <= 7; level++ {
		for _, r := range []rule.Rule{life, parity, filling} {
			s := storeOf(t, 65536)
			g := s.grower(r)
			id := s.lay(anySheet(&c, 1<<level))
			for j := range level - 1 {
				first := must(t)(g.Grow(id, j))
				squares, known := s.Len(), g.Known()
				for range 3 {
					if got, err := g.Grow(id, j); got != first || err != nil {
						t.Fatalf("Grow, asked twice: %d, %v, and was %d", got, err, first)
					}
				}
				if s.Len() != squares || g.Known() != known {
					t.Fatalf("Grow, asked twice: %d squares and %d known, and there were %d and %d", s.Len(), g.Known(), squares, known)
				}
			}
		}
	}
}

// GW2: errors are not remembered, and nothing is forgotten with them.
func TestKnownErrors(t *testing.T) {
	s := storeOf(t, 100)
	g := s.grower(life)
	leaf, id := must(t)(s.Leaf(7)), must(t)(s.Empty(5))
	for range 2 {
		known := g.Known()
		for _, j := range append([]int{0, 4}, farAway...) {
			for _, ask := range []int{leaf, s.Len() + 1, 0, -1} {
				if got, err := g.Grow(ask, j); got != 0 || err == nil {
					t.Fatalf("Grow(%d, %d): %d, %v", ask, j, got, err)
				}
			}
		}
		if g.Known() != known {
			t.Errorf("Known behind errors: %d, and was %d", g.Known(), known)
		}
		must(t)(g.Grow(id, 3))
		if g.Known() < 1 {
			t.Error("nothing is known behind Grow")
		}
	}
}

// GW2: what was not there when it was asked for is answered when it is.
func TestThereLater(t *testing.T) {
	s := storeOf(t, 100)
	g := s.grower(life)
	for id := 1; id <= 5; id++ {
		if got, err := g.Grow(id, 0); got != 0 || err == nil {
			t.Fatalf("Grow of none: %d, %v", got, err)
		}
	}
	for i := range 4 {
		must(t)(s.Leaf(tile.Tile(0x1818000000 << i)))
	}
	id := must(t)(s.Node([4]int{1, 2, 3, 4}))
	if got, err := g.Grow(id, 0); got < 1 || err != nil {
		t.Errorf("Grow of what is there now: %d, %v", got, err)
	}
}
