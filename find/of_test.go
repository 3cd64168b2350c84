package find

import (
	"math"
	"slices"
	"testing"

	"quilt/api"
	"quilt/chance"
	"quilt/tile"
)

// plain is Empty of a level, and then Set of each cell, one behind the other.
func (s store) plain(level int, l []api.Cell) (int, error) {
	id, err := s.Empty(level)
	for _, c := range l {
		if err == nil {
			id, err = s.Set(id, c.X, c.Y, true)
		}
	}
	return id, err
}

// FD1: levels that can be and that can't, of no cells: the empty square.
func TestOfLevels(t *testing.T) {
	for level := 3; level <= 40; level++ {
		for _, l := range [][]api.Cell{nil, {}, {{X: 5, Y: 2}}} {
			s := storeOf(t, 200)
			got := must(t)(Of(s.Store, level, l))
			if s.level(got) != level || s.many(got) != len(l) {
				t.Fatalf("Of level %d, with %v: level %d, %d cells", level, l, s.level(got), s.many(got))
			}
			if len(l) == 0 && (got != level-2 || s.Len() != level-2) {
				t.Fatalf("Of level %d, without cells: %d of %d squares", level, got, s.Len())
			}
		}
	}
	s := storeOf(t, 200)
	must(t)(s.Leaf(9))
	before := s.tells()
	for _, level := range wrongLevels() {
		for _, l := range [][]api.Cell{nil, {}, {{}}, {{X: 7, Y: 7}}} {
			s.failsOf("of a level that can't be", level, l, api.ErrArg)
		}
	}
	s.stays("Of what can't be", before)
}

// wrongLevels are such that no square has; cut to fewer bits some of them were.
func wrongLevels() []int {
	return []int{-1, 2, 41, 0, 1, -3, 42, 64, 67, 256 + 3, 1 << 32, 1<<32 + 3, 1<<32 + 40, math.MaxInt, math.MinInt, math.MinInt + 3}
}

// FD1: the corners of squares of each level, alone and all together, and what lies by the middle.
func TestOfCorners(t *testing.T) {
	for level := 3; level <= 40; level++ {
		half := 1 << (level - 1)
		l := append(corners(level), api.Cell{X: half - 1, Y: half}, api.Cell{X: half, Y: half - 1})
		s := storeOf(t, 2000)
		for i, c := range l {
			id := must(t)(Of(s.Store, level, l[i:i+1]))
			s.hasCells("of one cell", id, l[i:i+1])
			for _, other := range l {
				if lives, err := s.Get(id, other.X, other.Y); lives != (c == other) || err != nil {
					t.Fatalf("Of level %d, with %v: at %v %v, %v", level, c, other, lives, err)
				}
			}
		}
		id := must(t)(Of(s.Store, level, l))
		s.hasCells("of corners", id, sorted(l))
	}
}

// FD1: one cell beyond each corner, to one side or to two, and far beyond, alone and among others; nothing is made then.
func TestOfBeyond(t *testing.T) {
	for level := 3; level <= 40; level++ {
		width := 1 << level
		s := storeOf(t, 100)
		must(t)(s.Leaf(5))
		before := s.tells()
		for _, far := range []int{-1, width, -width, width + 1, 1 << 40, 1 << 41, 1<<32 + 1 + width, -1 << 40, 1 << 62, math.MaxInt, math.MinInt, math.MaxInt - 7, math.MinInt + 7} {
			for _, other := range []int{0, width - 1, far} {
				for _, c := range []api.Cell{{X: far, Y: other}, {X: other, Y: far}} {
					s.failsOf("with one beyond", level, []api.Cell{c}, api.ErrRange)
					s.failsOf("with one beyond at the end", level, append(corners(level), c), api.ErrRange)
					s.failsOf("with one beyond ahead", level, append([]api.Cell{c}, corners(level)...), api.ErrRange)
				}
			}
		}
		s.stays("Of what lies beyond", before)
	}
}

// FD1: just as many cells as may be, and one more, be they different or not.
func TestOfMany(t *testing.T) {
	all := sheet{64, slices.Repeat([]bool{true}, 4096)}.cells()
	s := storeOf(t, 65536)
	if got := must(t)(Of(s.Store, 6, all)); got != s.full(6) || s.many(got) != 4096 {
		t.Errorf("Of 4096 cells: %d, %d", got, s.many(got))
	}
	one := slices.Repeat([]api.Cell{{X: 1<<40 - 1, Y: 3}}, 4096)
	if got := must(t)(Of(s.Store, 40, one)); s.many(got) != 1 {
		t.Errorf("Of one cell, 4096 times: %d", s.many(got))
	}
	before := s.tells()
	for _, n := range []int{1, 2, 1000, 4096, 61440, 65536 - 4096} {
		s.failsOf("more cells than may be", 6, append(slices.Clone(all), slices.Repeat(all[:1], n)...), api.ErrLong)
		s.failsOf("one cell more often than may be", 40, append(slices.Clone(one), slices.Repeat(one[:1], n)...), api.ErrLong)
	}
	s.stays("Of too many", before)
}

// FD1: cells in any order, each as often as it comes: one square, of just these, made as by Empty and Set.
func TestOfOrders(t *testing.T) {
	c := chance.Chance(1)
	for i := range 150 {
		level := 3 + c.Below(38)
		l := someCells(&c, level, c.Below(30))
		s := storeOf(t, 65536)
		id := must(t)(Of(s.Store, level, l))
		s.hasCells("of some", id, sorted(l))
		for range 3 {
			twice := shuffled(&c, append(slices.Clone(l), l[:c.Below(len(l)+1)]...))
			if got := must(t)(Of(s.Store, level, twice)); got != id {
				t.Fatalf("Of %v: %d, and of the same in another order %d", l, id, got)
			}
		}
		if len(l) > 0 && i%2 == 0 {
			l = append(l, l[0])
		}
		s.sameAsPlain(level, l)
	}
}

// sameAsPlain asks that Of does as Empty and Set do, in stores of all rooms up to what is needed: the same answer, the same error, the same squares.
func (s store) sameAsPlain(level int, l []api.Cell) {
	s.t.Helper()
	most := storeOf(s.t, 65536)
	must(s.t)(most.plain(level, l))
	all := most.tells()
	for room := 1; room <= len(all)+1; room += 1 + room/7 {
		s.sameWithin(room, level, l, all)
	}
	s.sameWithin(len(all)-1, level, l, all)
	s.sameWithin(len(all), level, l, all)
}

// sameWithin is so in a store of that room, all of the squares being told.
func (s store) sameWithin(room, level int, l []api.Cell, all []told) {
	s.t.Helper()
	if room < 1 {
		return
	}
	one, two := storeOf(s.t, room), storeOf(s.t, room)
	for range 2 {
		want, _ := two.plain(level, l)
		if room < len(all) {
			one.failsOf("with too little room", level, l, api.ErrLimit)
		} else if got := must(s.t)(Of(one.Store, level, l)); got != want {
			s.t.Fatalf("Of %v: %d, want %d", l, got, want)
		}
		one.stays("Of", all[:min(room, len(all))])
		two.stays("Empty and Set", all[:min(room, len(all))])
	}
}

// FD1: what is there already is not made again: in a full store it is no limit.
func TestOfThere(t *testing.T) {
	c := chance.Chance(2)
	for range 40 {
		level := 3 + c.Below(38)
		l := someCells(&c, level, 1+c.Below(10))
		most := storeOf(t, 65536)
		want := must(t)(most.plain(level, l))
		s := storeOf(t, most.Len())
		must(t)(s.plain(level, l))
		before := s.tells()
		for range 2 {
			if got, err := Of(s.Store, level, l); got != want || err != nil {
				t.Fatalf("Of what is there: %d, %v, want %d", got, err, want)
			}
		}
		s.stays("Of what is there", before)
	}
}

// FD1: of two faults at once the one that comes first in the chapter's order is told, in a store with room and in one without.
func TestOfTwoFaults(t *testing.T) {
	s, tight := storeOf(t, 1000), storeOf(t, 1)
	must(t)(tight.Leaf(tile.Tile(7)))
	const fine = 5
	good, long, beyond := []api.Cell{{X: 1, Y: 1}}, make([]api.Cell, 4097), []api.Cell{{X: 1, Y: 1}, {X: -1}}
	both := append(make([]api.Cell, 4096), api.Cell{Y: 1 << 40})
	for _, k := range []struct {
		level int
		l     []api.Cell
		want  api.Errno
	}{
		{2, good, api.ErrArg}, {41, long, api.ErrArg}, {-1, beyond, api.ErrArg}, {41, both, api.ErrArg},
		{fine, long, api.ErrLong}, {40, both, api.ErrLong}, {3, both, api.ErrLong},
		{fine, beyond, api.ErrRange}, {40, beyond, api.ErrRange},
	} {
		s.failsOf("with faults", k.level, k.l, k.want)
		tight.failsOf("with faults, without room", k.level, k.l, k.want)
		store{t: t}.failsOf("of a nil store", k.level, k.l, api.ErrArg)
	}
	if s.Len() != 0 || tight.Len() != 1 {
		t.Errorf("squares of what can't be: %d, %d", s.Len(), tight.Len())
	}
	for _, level := range []int{3, fine, 40} {
		tight.failsOf("without room", level, good, api.ErrLimit)
		tight.failsOf("without room", level, nil, api.ErrLimit)
		store{t: t}.failsOf("of a nil store", level, good, api.ErrArg)
		store{t: t}.failsOf("of a nil store", level, nil, api.ErrArg)
	}
}
