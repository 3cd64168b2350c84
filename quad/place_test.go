package quad

import (
	"math"
	"slices"
	"testing"

	"quilt/api"
	"quilt/chance"
	"quilt/tile"
)

// QD3: the example, and a square of each level, asked twice, with what stands below it.
func TestEmpty(t *testing.T) {
	for level := 3; level <= 40; level++ {
		s := made(t, level-2)
		for again := range 2 {
			if got, err := s.Empty(level); got != level-2 || err != nil {
				t.Errorf("Empty(%d), asked %d times before: %d, %v", level, again, got, err)
			}
		}
		want := []told{{level: 3}}
		for wide := 4; wide <= level; wide++ {
			want = append(want, told{level: wide, kids: fourOf(wide - 3)})
		}
		stays(t, "Empty", s, want)
		for below := 3; below <= level; below++ {
			if got, err := s.Empty(below); got != below-2 || err != nil {
				t.Errorf("Empty(%d) behind Empty(%d): %d, %v", below, level, got, err)
			}
		}
		stays(t, "Empty of what is there", s, want)
	}
}

// QD3: levels that can't be, be there room or not; what is there stays.
func TestEmptyWrong(t *testing.T) {
	for _, room := range []int{1, 2, 100} {
		s := made(t, room)
		for range 2 {
			for _, level := range []int{2, 41, 0, 1, -1, -3, 42, 64, 67, 256 + 3, 1 << 32, 1<<32 + 3, math.MaxInt, math.MinInt, math.MinInt + 3} {
				got, err := s.Empty(level)
				fails(t, "Empty", got, err, api.ErrArg)
			}
			must(t)(s.Leaf(9))
			stays(t, "behind Empty of what can't be", s, []told{{level: 3, count: 2, tile: 9}})
		}
	}
}

// QD3: what is there already, made as a square of four, or some of it, is not made again.
func TestEmptyThere(t *testing.T) {
	s := made(t, 5)
	must(t)(s.Leaf(7))
	zero := must(t)(s.Leaf(0))
	wide := must(t)(s.Node(fourOf(zero)))
	for level, want := range map[int]int{3: zero, 4: wide} {
		if got, err := s.Empty(level); got != want || err != nil {
			t.Errorf("Empty(%d): %d, %v, want %d", level, got, err, want)
		}
	}
	for range 2 {
		if got, err := s.Empty(6); got != 5 || err != nil {
			t.Errorf("Empty(6): %d, %v, want 5", got, err)
		}
	}
	want := []told{{level: 3, count: 3, tile: 7}, {level: 3}, {level: 4, kids: fourOf(2)}, {level: 5, kids: fourOf(3)}, {level: 6, kids: fourOf(4)}}
	stays(t, "Empty", s, want)
	got, err := s.Set(1, 2, 0, false)
	fails(t, "Set without room", got, err, api.ErrLimit)
	stays(t, "Set without room", s, want)
}

// QD3: with too little room Empty makes what there is room for, from below, and that stays; so does what was there.
func TestEmptyLimit(t *testing.T) {
	for level := 3; level <= 40; level++ {
		for _, before := range []int{0, 1, 2} {
			for _, room := range []int{1, 2, 3, level - 4 + before, level - 3 + before, level - 2 + before} {
				if room < max(before, 1) {
					continue
				}
				b := bothOf(t, room)
				for i := range before {
					b.leaf(tile.Tile(i + 1))
				}
				for range 2 {
					b.empty(level)
					tellIs(t, b.s, b.m)
					if want := min(room, level-2+before); b.s.Len() != want {
						t.Fatalf("Len behind Empty(%d) with room for %d: %d, want %d", level, room, b.s.Len(), want)
					}
				}
			}
		}
	}
}

// corners are a square's corners, what lies beside its middle, and one other.
func corners(level int) []api.Cell {
	last, half := 1<<level-1, 1<<(level-1)
	return []api.Cell{{X: 0, Y: 0}, {X: last, Y: 0}, {X: 0, Y: last}, {X: last, Y: last}, {X: half - 1, Y: half - 1}, {X: half, Y: half - 1}, {X: half - 1, Y: half}, {X: half, Y: half}, {X: 5, Y: 2}}
}

// QD3: the corners and the middle of squares of each level, set alone, there and back, and all together.
func TestSetCorners(t *testing.T) {
	for level := 3; level <= 40; level++ {
		b := bothOf(t, 65536)
		b.empty(level)
		empty := b.s.Len()
		var l []api.Cell
		together := empty
		for _, at := range corners(level) {
			b.set(empty, at.X, at.Y, true)
			alone := must(t)(b.s.Set(empty, at.X, at.Y, true))
			if got := cellsOf(t, b.s, alone); got.key() != contentOf(level, []api.Cell{at}).key() {
				t.Fatalf("Set of %v, of level %d: %s", at, level, got.key())
			}
			before := tells(t, b.s)
			if got, err := b.s.Set(alone, at.X, at.Y, false); got != empty || err != nil {
				t.Fatalf("Set of %v and back, of level %d: %d, %v, want %d", at, level, got, err, empty)
			}
			if got, err := b.s.Set(alone, at.X, at.Y, true); got != alone || err != nil {
				t.Fatalf("Set of %v twice, of level %d: %d, %v, want %d", at, level, got, err, alone)
			}
			stays(t, "Set there and back, and twice", b.s, before)
			for _, other := range corners(level) {
				b.get(alone, other.X, other.Y)
				b.get(empty, other.X, other.Y)
			}
			b.set(together, at.X, at.Y, true)
			together = must(t)(b.s.Set(together, at.X, at.Y, true))
			l = append(l, at)
			if got, want := cellsOf(t, b.s, together), contentOf(level, l); got.key() != want.key() {
				t.Fatalf("Set of %v, of level %d: %s", l, level, got.key())
			}
		}
		for _, at := range l {
			b.set(together, at.X, at.Y, false)
			together = must(t)(b.s.Set(together, at.X, at.Y, false))
		}
		if together != empty {
			t.Errorf("Set of all corners of level %d, and back: %d, want %d", level, together, empty)
		}
		tellIs(t, b.s, b.m)
	}
}

// beyond are numbers that are no place in a square of a level; cut to fewer bits, or counted on from another side, some of them were.
func beyond(level int) []int {
	width := 1 << level
	return []int{-1, width, width + 1, -width, -width + 1, 1 - 2*width, 2 * width, 1 << 41, 1<<41 + 1, -1 << 41, 1 << 62, 1<<62 + 1, -1 << 62, math.MaxInt, math.MaxInt - 7, math.MinInt, math.MinInt + 1, math.MinInt + 7}
}

// QD3: one cell beyond each side, and far beyond, to one side or to two; of squares of each level, full and empty.
func TestBeyond(t *testing.T) {
	for level := 3; level <= 40; level++ {
		s := made(t, 100)
		empty, full := must(t)(s.Empty(level)), must(t)(s.Leaf(allLive))
		for range level - 3 {
			full = must(t)(s.Node(fourOf(full)))
		}
		before := tells(t, s)
		for _, far := range beyond(level) {
			for _, other := range append([]int{0, 1, 1<<level - 1}, beyond(level)...) {
				for _, at := range []api.Cell{{X: far, Y: other}, {X: other, Y: far}} {
					for _, id := range []int{empty, full} {
						lives, err := s.Get(id, at.X, at.Y)
						fails(t, "Get beyond", lives, err, api.ErrRange)
						for _, lives := range []bool{false, true} {
							got, err := s.Set(id, at.X, at.Y, lives)
							fails(t, "Set beyond", got, err, api.ErrRange)
						}
					}
				}
			}
		}
		stays(t, "beyond", s, before)
	}
}

// QD3: the width is that of the square which is asked, not of another one; beyond, a full store tells ErrRange too.
func TestBeyondFull(t *testing.T) {
	s := made(t, 4)
	must(t)(s.Empty(6))
	for id := 1; id <= 4; id++ {
		width := 8 << (id - 1)
		for _, at := range []api.Cell{{X: width}, {Y: width}, {X: -1}, {Y: -1}, {X: width, Y: -1}} {
			lives, err := s.Get(id, at.X, at.Y)
			fails(t, "Get beyond", lives, err, api.ErrRange)
			got, err := s.Set(id, at.X, at.Y, true)
			fails(t, "Set beyond, of a full store", got, err, api.ErrRange)
		}
		for _, at := range []api.Cell{{X: width - 1}, {Y: width - 1}, {}} {
			lives, err := s.Get(id, at.X, at.Y)
			answers(t, "Get", lives, err, false, 0)
			got, err := s.Set(id, at.X, at.Y, true)
			fails(t, "Set of a full store", got, err, api.ErrLimit)
			got, err = s.Set(id, at.X, at.Y, false)
			answers(t, "Set of what is so, of a full store", got, err, id, 0)
		}
	}
}

// QD3: each cell of squares of the levels 3 and 4 by themselves, got, set and not set; the others stay.
func TestEachCell(t *testing.T) {
	c := chance.Chance(2)
	for i := range 40 {
		b := bothOf(t, 65536)
		for _, leaf := range []tile.Tile{anyTile(&c), anyTile(&c), tile.Tile(c.Below(1 << 30)), 0x55aa55aa55aa55aa} {
			b.leaf(leaf)
		}
		b.node([4]int{1, c.Below(b.s.Len()) + 1, b.s.Len(), c.Below(b.s.Len()) + 1})
		id := 1 + c.Below(2)*(b.s.Len()-1)
		width := 1 << b.m.all[id-1].level
		for y := range width {
			for x := range width {
				b.get(id, x, y)
				if i < 10 {
					b.set(id, x, y, true)
					b.set(id, x, y, false)
				}
			}
		}
		tellIs(t, b.s, b.m)
	}
}

// QD3: Set makes just what is not there, from the tile up, and answers the last of it.
func TestSetFromBelow(t *testing.T) {
	s := made(t, 100)
	empty := must(t)(s.Empty(6)) // 1 to 4
	for _, k := range []struct {
		id, x, y int
		lives    bool
		want     int
		made     []told
	}{
		{empty, 8, 0, true, 8, []told{{3, 1, 1, [4]int{}}, {4, 1, 0, [4]int{1, 5, 1, 1}}, {5, 1, 0, [4]int{6, 2, 2, 2}}, {6, 1, 0, [4]int{7, 3, 3, 3}}}},
		{empty, 0, 8, true, 11, []told{{4, 1, 0, [4]int{1, 1, 5, 1}}, {5, 1, 0, [4]int{9, 2, 2, 2}}, {6, 1, 0, [4]int{10, 3, 3, 3}}}},
		{empty, 24, 0, true, 13, []told{{5, 1, 0, [4]int{2, 6, 2, 2}}, {6, 1, 0, [4]int{12, 3, 3, 3}}}},
		{empty, 40, 32, true, 14, []told{{6, 1, 0, [4]int{3, 3, 3, 7}}}},
		{empty, 40, 32, true, 14, nil},
		{14, 40, 32, true, 14, nil},
		{14, 40, 32, false, 4, nil},
		{14, 63, 63, false, 14, nil},
		{14, 8, 0, true, 15, []told{{6, 2, 0, [4]int{7, 3, 3, 7}}}},
		{15, 40, 32, false, 8, nil},
		{7, 8, 0, false, 3, nil},
		{1, 0, 0, true, 5, nil},
		{2, 0, 0, true, 16, []told{{4, 1, 0, [4]int{5, 1, 1, 1}}}},
		{16, 1, 0, true, 18, []told{{3, 2, 3, [4]int{}}, {4, 2, 0, [4]int{17, 1, 1, 1}}}},
	} {
		want := append(tells(t, s), k.made...)
		if got, err := s.Set(k.id, k.x, k.y, k.lives); got != k.want || err != nil {
			t.Fatalf("Set(%d, %d, %d, %v): %d, %v, want %d", k.id, k.x, k.y, k.lives, got, err, k.want)
		}
		stays(t, "Set", s, want)
	}
}

// QD3: with too little room Set makes what there is room for, from below, and that stays; so does what was there.
func TestSetLimit(t *testing.T) {
	for level := 3; level <= 40; level++ {
		for _, more := range []int{0, 1, 2, 3, level - 4, level - 3, level - 2} {
			if more < 0 {
				continue
			}
			b := bothOf(t, level-2+more)
			b.empty(level)
			at := corners(level)[level%9]
			for range 2 {
				b.set(level-2, at.X, at.Y, true)
				tellIs(t, b.s, b.m)
				if want := level - 2 + min(more, level-2); b.s.Len() != want {
					t.Fatalf("Len behind Set of level %d with room for %d more: %d, want %d", level, more, b.s.Len(), want)
				}
			}
			b.set(level-2, at.X, at.Y, false)
			b.get(level-2, at.X, at.Y)
			if more < level-2 {
				b.set(level-2, 1, 0, true)
			}
			tellIs(t, b.s, b.m)
		}
	}
}

// QD3: Get of a square behind Set of it is as it was: the square itself stays.
func TestSetStays(t *testing.T) {
	c := chance.Chance(3)
	s := made(t, 65536)
	id := must(t)(s.Empty(40))
	var ids []int
	var contents []content
	q := content{level: 40}
	for range 150 {
		at := api.Cell{X: anyPlace(&c, 40), Y: anyPlace(&c, 40)}
		if min(at.X, at.Y) < 0 || max(at.X, at.Y) >= 1<<40 {
			continue
		}
		lives := c.Below(4) > 0
		id, q = must(t)(s.Set(id, at.X, at.Y, lives)), q.with(at, lives)
		ids, contents = append(ids, id), append(contents, q)
	}
	for i, id := range ids {
		if got := cellsOf(t, s, id); got.key() != contents[i].key() {
			t.Fatalf("the square %d: %s, want %s", id, got.key(), contents[i].key())
		}
		for _, at := range contents[len(contents)-1].cells {
			got, err := s.Get(id, at.X, at.Y)
			answers(t, "Get", got, err, slices.Contains(contents[i].cells, at), 0)
		}
	}
}
