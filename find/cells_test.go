package find

import (
	"math"
	"slices"
	"testing"

	"quilt/api"
	"quilt/chance"
	"quilt/tile"
)

// Each call of a nil store, for squares that could be and that could not.
func TestNil(t *testing.T) {
	var s store
	s.t = t
	for _, id := range append(notThere(5), 1, 2, 3, 40) {
		s.failsAll("of a nil store", id, api.ErrArg)
	}
}

// FD2: squares that are not there, in stores with none and with some.
func TestNone(t *testing.T) {
	for n := range 39 {
		s := storeOf(t, 100)
		if n > 0 {
			must(t)(s.Empty(n + 2))
		}
		if n%5 == 3 {
			must(t)(s.Set(n, 0, 0, true))
		}
		before := s.tells()
		for _, id := range notThere(s.Len()) {
			s.failsAll("of none", id, api.ErrNone)
		}
		s.stays("calls for squares that are not there", before)
	}
}

// FD2: what is not there yet is told as it is once it was made.
func TestThereLater(t *testing.T) {
	s := storeOf(t, 10)
	s.failsAll("of none", 1, api.ErrNone)
	must(t)(s.Leaf(1 << 12))
	c := api.Cell{X: 4, Y: 1}
	s.hasCells("of what is there now", 1, []api.Cell{c})
	s.hasBox("of what is there now", 1, c, c, true)
	s.hasIn("of what is there now", 1, c, c, 1)
}

// FD2: squares without cells, of each level.
func TestEmpty(t *testing.T) {
	for level := 3; level <= 40; level++ {
		s := storeOf(t, 100)
		id := must(t)(s.Empty(level))
		before := s.tells()
		s.hasCells("of an empty square", id, nil)
		s.hasBox("of an empty square", id, api.Cell{}, api.Cell{}, false)
		for _, low := range farCells() {
			for _, high := range farCells() {
				s.hasIn("of an empty square", id, low, high, 0)
			}
		}
		s.stays("calls for empty squares", before)
	}
}

// FD2, FD3: what comes back is what a search cell by cell gives, of squares of the levels 3 to 6, with few cells and with many.
func TestSearch(t *testing.T) {
	c := chance.Chance(3)
	for i := range 400 {
		s := storeOf(t, 65536)
		width := 8 << (i % 4)
		p := anySheet(&c, width, []int{1, 2, 9, width, width * width, 2 * width * width}[i/4%6])
		id := s.lay(p)
		before := s.tells()
		found := s.search(id)
		if !slices.Equal(found.lives, p.lives) {
			t.Fatal("a search does not find what was laid")
		}
		l := found.cells()
		s.hasCells("by a search", id, l)
		low, high, any := found.box()
		s.hasBox("by a search", id, low, high, any)
		s.hasIn("by a search: Box", id, low, high, len(l))
		for range 60 {
			low := api.Cell{X: c.Below(width+4) - 2, Y: c.Below(width+4) - 2}
			high := api.Cell{X: low.X + c.Below(width) - 2, Y: low.Y + c.Below(width) - 2}
			s.hasIn("by a search", id, low, high, found.in(low, high))
		}
		s.stays("what is told of squares", before)
		if got, err := Of(s.Store, 3+i%4, l); got != id || err != nil {
			t.Fatalf("Of of Cells: %d, %v, want %d", got, err, id)
		}
	}
}

// FD2: by rows from above, and from the left within each, over the borders of parts too.
func TestOrder(t *testing.T) {
	l := []api.Cell{{X: 15, Y: 0}, {X: 0, Y: 1}, {X: 7, Y: 7}, {X: 8, Y: 7}, {X: 31, Y: 7}, {X: 1, Y: 8}, {X: 16, Y: 15}, {X: 15, Y: 16}, {X: 0, Y: 31}, {X: 1, Y: 31}, {X: 30, Y: 31}}
	s := storeOf(t, 200)
	for _, i := range []int{0, 5, 10} {
		from := append(slices.Clone(l[i:]), l[:i]...)
		s.hasCells("out of order", must(t)(Of(s.Store, 5, from)), l)
	}
	c := chance.Chance(4)
	for range 60 {
		level := 3 + c.Below(38)
		s := storeOf(t, 65536)
		got, err := Cells(s.Store, must(t)(Of(s.Store, level, someCells(&c, level, 50))))
		if err != nil || len(got) < 2 {
			t.Fatalf("Cells: %v, %v", got, err)
		}
		for i, c := range got[1:] {
			if ahead := got[i]; c.Y < ahead.Y || c.Y == ahead.Y && c.X <= ahead.X {
				t.Fatalf("Cells: %v ahead of %v", ahead, c)
			}
		}
	}
}

// FD2: just as many cells as may be, and one more, in low squares and in wide ones, at each corner of these; then more, and very many.
func TestCellsMany(t *testing.T) {
	for i := range 4 {
		s := storeOf(t, 65536)
		most := s.full(6)
		all := s.search(most).cells()
		for level := 6; level <= 40; level += 1 + level/4 {
			id := s.widened(most, level, i)
			at := api.Cell{X: i % 2 * (1<<level - 64), Y: i / 2 * (1<<level - 64)}
			want := slices.Clone(all)
			for j := range want {
				want[j] = plus(want[j], at)
			}
			s.hasCells("as many as may be", id, want)
			if level == 6 {
				continue
			}
			other := corners(level)[3-i]
			more := must(t)(s.Set(id, other.X, other.Y, true))
			if s.many(more) != 4097 {
				t.Fatalf("one more than may be: %d", s.many(more))
			}
			s.failsCells("one more than may be", more, api.ErrLimit)
			less := must(t)(s.Set(more, at.X+9, at.Y+9, false))
			if got, err := Cells(s.Store, less); len(got) != 4096 || err != nil {
				t.Fatalf("one more, and one less: %d, %v", len(got), err)
			}
		}
	}
	s := storeOf(t, 100)
	for level := 7; level <= 40; level++ {
		s.failsCells("of all cells", s.full(level), api.ErrLimit)
	}
}

// FD2: squares that come many times within a greater one, till there are too many cells.
func TestCellsOver(t *testing.T) {
	s := storeOf(t, 100)
	id, l := must(t)(s.Leaf(1<<10)), []api.Cell{{X: 2, Y: 1}}
	for level := 3; level < 9; level++ {
		s.hasCells("over and over", id, l)
		id = s.four(id, id, id, id)
		var next []api.Cell
		for i := range 4 {
			for _, c := range l {
				next = append(next, api.Cell{X: c.X + i%2<<level, Y: c.Y + i/2<<level})
			}
		}
		l = sorted(next)
	}
	s.hasCells("4096 times", id, l)
	empty := must(t)(s.Empty(9))
	s.hasCells("4096 times, in a wider square", s.widened(id, 40, 0), l)
	s.failsCells("8192 times", s.four(id, empty, empty, id), api.ErrLimit)
	one := must(t)(Of(s.Store, 9, []api.Cell{{X: 511, Y: 511}}))
	s.failsCells("4096 times, and another cell", s.four(one, empty, empty, id), api.ErrLimit)
}

// FD2: a cell at each place of tiles, by itself.
func TestEachCell(t *testing.T) {
	s := storeOf(t, 300)
	for i := range 64 {
		id := must(t)(s.Leaf(tile.Tile(1) << i))
		c := api.Cell{X: i % 8, Y: i / 8}
		s.hasCells("a tile", id, []api.Cell{c})
		s.hasBox("a tile", id, c, c, true)
		s.hasIn("a tile", id, c, c, 1)
		s.hasIn("a tile", id, api.Cell{X: math.MinInt, Y: math.MinInt}, api.Cell{X: math.MaxInt, Y: math.MaxInt}, 1)
		s.hasIn("a tile, left of the cell", id, api.Cell{}, api.Cell{X: c.X - 1, Y: 7}, 0)
		s.hasIn("a tile, right of the cell", id, api.Cell{X: c.X + 1}, api.Cell{X: 7, Y: 7}, 0)
		s.hasIn("a tile, above the cell", id, api.Cell{}, api.Cell{X: 7, Y: c.Y - 1}, 0)
		s.hasIn("a tile, below the cell", id, api.Cell{Y: c.Y + 1}, api.Cell{X: 7, Y: 7}, 0)
	}
}

// Rule 3: no two answers of Cells share memory, spare room neither, and none is felt in one that is asked again.
func TestAnswersApart(t *testing.T) {
	s := storeOf(t, 200)
	for _, l := range [][]api.Cell{nil, {{X: 3, Y: 3}}, corners(6), {{X: 1, Y: 9}, {X: 60, Y: 9}, {X: 5, Y: 11}}} {
		arg := append(make([]api.Cell, 0, len(l)+5), l...)
		id := must(t)(Of(s.Store, 6, arg))
		for i := range arg[:cap(arg)] {
			arg[:cap(arg)][i] = api.Cell{X: 1, Y: 1}
		}
		first, err := Cells(s.Store, id)
		if err != nil {
			t.Fatal(err)
		}
		second, _ := Cells(s.Store, id)
		for i := range second[:cap(second)] {
			second[:cap(second)][i] = api.Cell{X: -1, Y: -1}
		}
		if !slices.Equal(first, sorted(l)) {
			t.Fatalf("two answers share memory: %v", first)
		}
		s.hasCells("behind an answer that was written over", id, sorted(l))
	}
}

// FD1: what is handed in is not changed, its spare room neither.
func TestArgumentsStay(t *testing.T) {
	s := storeOf(t, 65536)
	c := chance.Chance(5)
	for range 30 {
		room := someCells(&c, 20, 40)
		before := slices.Clone(room)
		for _, level := range []int{20, 25, 40, 3, 2} {
			Of(s.Store, level, room[:30])
			if !slices.Equal(room, before) {
				t.Fatal("what was handed in is changed")
			}
		}
	}
}
