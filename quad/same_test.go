package quad

import (
	"slices"
	"testing"

	"quilt/api"
	"quilt/chance"
	"quilt/tile"
)

// someCells are so many different cells of a square of a level, far from each other and near.
func someCells(c *chance.Chance, level, n int) []api.Cell {
	seen := map[api.Cell]bool{}
	var l []api.Cell
	for len(l) < n {
		at := api.Cell{X: anyPlace(c, level), Y: anyPlace(c, level)}
		if min(at.X, at.Y) >= 0 && max(at.X, at.Y) < 1<<level && !seen[at] {
			seen[at] = true
			l = append(l, at)
		}
	}
	return l
}

// shuffled are cells in another order, by chance.
func shuffled(c *chance.Chance, l []api.Cell) []api.Cell {
	l = slices.Clone(l)
	for i := range l {
		j := i + c.Below(len(l)-i)
		l[i], l[j] = l[j], l[i]
	}
	return l
}

// setAll is the square with cells so, one behind the other.
func setAll(t *testing.T, s *Store, id int, l []api.Cell, lives bool) int {
	t.Helper()
	for _, at := range l {
		id = must(t)(s.Set(id, at.X, at.Y, lives))
	}
	return id
}

// QD4: cells set in one order and in another, some of them twice, some there and back, are one square; with one more, or one less, another.
func TestOrders(t *testing.T) {
	c := chance.Chance(7)
	for i := range 120 {
		level := 3 + i%38
		s := made(t, 65536)
		empty := must(t)(s.Empty(level))
		l := someCells(&c, level, 2+c.Below(12))
		id := setAll(t, s, empty, l, true)
		for range 5 {
			if got := setAll(t, s, empty, shuffled(&c, append(shuffled(&c, l), l[:2]...)), true); got != id {
				t.Fatalf("%v, set in another order: %d, want %d", l, got, id)
			}
			parts := shuffled(&c, l)
			n := c.Below(len(l))
			all := setAll(t, s, empty, parts, true)
			if got := setAll(t, s, setAll(t, s, all, parts[:n], false), shuffled(&c, parts[:n]), true); got != id {
				t.Fatalf("%v, some of them there and back: %d, want %d", l, got, id)
			}
		}
		seen := map[int]bool{id: true}
		for j := range l {
			less := must(t)(s.Set(id, l[j].X, l[j].Y, false))
			if seen[less] || less != setAll(t, s, empty, slices.Delete(slices.Clone(l), j, j+1), true) {
				t.Fatalf("%v, without the %d-th: %d", l, j, less)
			}
			seen[less] = true
		}
		if count, err := s.Count(id); count != len(l) || err != nil {
			t.Fatalf("Count of %v: %d, %v", l, count, err)
		}
	}
}

// QD4: what Set makes, and what Node makes of tiles, is the same where the cells are, and so is what Empty makes.
func TestWaysMeet(t *testing.T) {
	c := chance.Chance(8)
	for range 60 {
		s := made(t, 65536)
		var four, wide [4]content
		var ids, wideIDs [4]int
		for i := range wide {
			for j := range four {
				leaf := anyTile(&c)
				four[j], ids[j] = leafOf(leaf), must(t)(s.Leaf(leaf))
			}
			wide[i], wideIDs[i] = nodeOf(four), must(t)(s.Node(ids))
		}
		id := must(t)(s.Node(wideIDs))
		q := nodeOf(wide)
		if got := setAll(t, s, must(t)(s.Empty(5)), shuffled(&c, q.cells), true); got != id {
			t.Fatalf("%v, set one by one: %d, want %d", q.cells, got, id)
		}
		if got := setAll(t, s, id, shuffled(&c, q.cells), false); got != must(t)(s.Empty(5)) {
			t.Fatalf("%v, none left: %d", q.cells, got)
		}
	}
}

// QD4: all squares of small stores, made any way, held against each other: the same cells of the same width are the same number.
func TestSameCells(t *testing.T) {
	c := chance.Chance(9)
	for i := range 100 {
		b := bothOf(t, []int{3, 8, 20, 50, 120}[i%5])
		for range 150 {
			b.step(&c)
		}
		seen := map[string]int{}
		for id := 1; id <= b.s.Len(); id++ {
			q := cellsOf(t, b.s, id)
			if other, there := seen[q.key()]; there {
				t.Fatalf("the squares %d and %d are both %s", other, id, q.key())
			}
			seen[q.key()] = id
			if count, err := b.s.Count(id); count != len(q.cells) || err != nil {
				t.Fatalf("Count of %s: %d, %v", q.key(), count, err)
			}
		}
	}
}

// QD4: full and empty squares, and such with one corner, of each level: asked any way they are once.
func TestSameWide(t *testing.T) {
	s := made(t, 38*3)
	empty, full, one := must(t)(s.Leaf(0)), must(t)(s.Leaf(allLive)), must(t)(s.Leaf(1))
	for range 2 {
		for level := 3; level <= 40; level++ {
			if got := must(t)(s.Empty(level)); got != empty {
				t.Errorf("Empty(%d): %d, want %d", level, got, empty)
			}
			for _, k := range []struct {
				id    int
				lives bool
				want  int
			}{{empty, true, one}, {one, true, one}, {one, false, empty}, {empty, false, empty}, {full, true, full}} {
				if got, err := s.Set(k.id, 0, 0, k.lives); got != k.want || err != nil {
					t.Errorf("Set(%d), of level %d: %d, %v, want %d", k.id, level, got, err, k.want)
				}
			}
			if level < 40 {
				empty, full, one = must(t)(s.Node(fourOf(empty))), must(t)(s.Node(fourOf(full))), must(t)(s.Node([4]int{one, empty, empty, empty}))
			}
		}
		empty, full, one = 1, 2, 3
	}
	if s.Len() != 38*3 {
		t.Errorf("Len: %d", s.Len())
	}
}

// QD4: with less room the squares are the first ones of those with more, made by the same calls; nothing else is made, and nothing that was there is lost.
func TestLessRoom(t *testing.T) {
	c := chance.Chance(10)
	for i := range 60 {
		level := 3 + c.Below(38)
		l := someCells(&c, level, 3)
		most := made(t, 65536)
		setAll(t, most, must(t)(most.Empty(level)), l, true)
		all := tells(t, most)
		room := 1 + c.Below(len(all))
		if i%10 == 0 {
			room = len(all)
		}
		s := made(t, room)
		id, err := s.Empty(level)
		for _, at := range l {
			if err == nil {
				id, err = s.Set(id, at.X, at.Y, true)
			}
		}
		if room < len(all) {
			fails(t, "with less room", id, err, api.ErrLimit)
		} else if err != nil {
			t.Fatalf("with just enough room: %v", err)
		}
		stays(t, "with less room", s, all[:room])
		got, err := s.Leaf(tile.Tile(0x123456789))
		fails(t, "Leaf behind the error", got, err, api.ErrLimit)
		stays(t, "behind the errors", s, all[:room])
	}
}
