package grow

import (
	"math"
	"testing"

	"quilt/api"
	"quilt/chance"
	"quilt/rule"
	"quilt/tile"
)

// wrongLaws are rules that may not be: Born for 0, or a bit above 8, in one part or both.
func wrongLaws() []rule.Rule {
	l := []rule.Rule{{Born: 1}, {Born: 9, Live: 12}, {Born: 0x1ff, Live: 0x1ff}, {Born: 0xffff, Live: 0xffff}}
	for bit := 9; bit < 16; bit++ {
		high := uint16(1) << bit
		l = append(l, rule.Rule{Born: high}, rule.Rule{Live: high}, rule.Rule{Born: 8 | high, Live: 12}, rule.Rule{Born: 8, Live: 12 | high}, rule.Rule{Born: 1 | high, Live: high})
	}
	return l
}

// GW1: New of a store and of none, of rules that can be and that can't; the store is not felt by it.
func TestNew(t *testing.T) {
	s := storeOf(t, 10)
	must(t)(s.Empty(5))
	before := s.tells()
	for _, r := range someLaws {
		g, err := New(nil, r)
		fails(t, "New of no store", g, err, api.ErrArg)
		if n := s.grower(r).Known(); n != 0 {
			t.Errorf("Known of a new Grower: %d", n)
		}
	}
	for _, r := range wrongLaws() {
		g, err := New(s.Store, r)
		fails(t, "New of a rule that can't be", g, err, api.ErrRule)
		g, err = New(nil, r)
		fails(t, "New of no store, and of a rule that can't be", g, err, api.ErrArg)
	}
	s.stays("New", before)
	if s := storeOf(t, 1); s.grower(life) == nil || s.Len() != 0 {
		t.Error("New of a store without squares makes some")
	}
}

// A nil Grower, asked for what may be, and for what may not.
func TestNil(t *testing.T) {
	var g *Grower
	for _, n := range []int{0, 1, -1, 2, 3, 4, 40, 41, math.MinInt, math.MaxInt} {
		id, err := g.Center(n)
		fails(t, "Center", id, err, api.ErrArg)
		id, err = g.Wide(n)
		fails(t, "Wide", id, err, api.ErrArg)
		for _, j := range append([]int{0, 1, n}, farAway...) {
			id, err = g.Grow(n, j)
			fails(t, "Grow", id, err, api.ErrArg)
		}
		if known := g.Known(); known != 0 {
			t.Errorf("Known of nil: %d", known)
		}
	}
}

// GW1, GW2: squares that are not there, in stores with none, one and some, full or not; with a j that can't be, too.
func TestNotThere(t *testing.T) {
	for _, n := range []int{0, 1, 2, 38} {
		for _, more := range []int{0, 1, 100} {
			s := storeOf(t, max(n+more, 1))
			if n > 0 {
				must(t)(s.Empty(n + 2))
			}
			g := s.grower(life)
			before := s.tells()
			for _, away := range notThere(n) {
				id, err := g.Center(away)
				fails(t, "Center of none", id, err, api.ErrNone)
				id, err = g.Wide(away)
				fails(t, "Wide of none", id, err, api.ErrNone)
				for _, j := range append([]int{0, 1, 2, 3, 38}, farAway...) {
					id, err = g.Grow(away, j)
					fails(t, "Grow of none", id, err, api.ErrNone)
				}
			}
			s.stays("what is asked of none", before)
			if known := g.Known(); known != 0 {
				t.Errorf("Known behind errors: %d", known)
			}
		}
	}
}

// GW1: no tile has a middle, with cells or without.
func TestCenterTile(t *testing.T) {
	s := storeOf(t, 100)
	g := s.grower(life)
	for i := range 66 {
		id := must(t)(s.Leaf(tile.Tile(1) << i))
		got, err := g.Center(id)
		fails(t, "Center of a tile", got, err, api.ErrArg)
	}
	must(t)(g.Center(must(t)(s.Empty(4))))
	got, err := g.Center(1)
	fails(t, "Center of a tile", got, err, api.ErrArg)
}

// GW1: the middle of squares of the levels 4 to 7, of any cells, cell by cell.
func TestCenter(t *testing.T) {
	c := chance.Chance(1)
	for i := range 60 {
		level := 4 + i%4
		p := anySheet(&c, 1<<level)
		s := storeOf(t, 65536)
		id := s.lay(p)
		before := s.tells()
		g := s.grower(anyRule(&c))
		got, err := g.Center(id)
		s.isSheet("Center", got, err, p.cut(1<<(level-2), 1<<(level-1)))
		s.keeps("Center", before)
		if again, err := g.Center(id); again != got || err != nil {
			t.Fatalf("Center, asked twice: %d, %v, and was %d", again, err, got)
		}
		if want := s.lay(p.cut(1<<(level-2), 1<<(level-1))); got != want {
			t.Fatalf("Center: %d, and the square with its cells is %d", got, want)
		}
	}
}

// GW1: each cell of a square of level 4, alone.
func TestCenterEach(t *testing.T) {
	s := storeOf(t, 1000)
	g := s.grower(life)
	for i := range 256 {
		l := []api.Cell{{X: i % 16, Y: i / 16}}
		got, err := g.Center(s.put(4, l))
		s.is("Center", got, err, 3, middleOf(l, 4))
	}
}

// GW1: the corners of the middle of squares of each level, and what lies beside them; and each of these cells alone.
func TestCenterLevels(t *testing.T) {
	for level := 4; level <= 40; level++ {
		s := storeOf(t, 65536)
		g := s.grower(life)
		l := marked(level)
		got, err := g.Center(s.put(level, l))
		s.is("Center", got, err, level-1, middleOf(l, level))
		for i := range l {
			got, err := g.Center(s.put(level, l[i:i+1]))
			s.is("Center of one", got, err, level-1, middleOf(l[i:i+1], level))
		}
		got, err = g.Center(must(t)(s.Empty(level)))
		if want := must(t)(s.Empty(level - 1)); got != want || err != nil {
			t.Errorf("Center without cells, of level %d: %d, %v, want %d", level, got, err, want)
		}
	}
}

// GW1: squares of any cells made wide, cell by cell; in their middle is what it was.
func TestWide(t *testing.T) {
	c := chance.Chance(2)
	for i := range 60 {
		level := 3 + i%4
		p := anySheet(&c, 1<<level)
		s := storeOf(t, 65536)
		id := s.lay(p)
		before := s.tells()
		g := s.grower(anyRule(&c))
		wide, err := g.Wide(id)
		want := p.cut(-1<<(level-1), 2<<level)
		s.isSheet("Wide", wide, err, want)
		s.keeps("Wide", before)
		if got := s.lay(want); got != wide {
			t.Fatalf("Wide: %d, and the square with its cells is %d", wide, got)
		}
		if got, err := g.Center(wide); got != id || err != nil {
			t.Fatalf("the middle of the wide one: %d, %v, want %d", got, err, id)
		}
		if again, err := g.Wide(id); again != wide || err != nil {
			t.Fatalf("Wide, asked twice: %d, %v, and was %d", again, err, wide)
		}
	}
}

// GW1: a tile with each cell alone, with none, and with all.
func TestWideTile(t *testing.T) {
	for i := range 64 {
		s := storeOf(t, 100)
		g := s.grower(life)
		got, err := g.Wide(must(t)(s.Leaf(1 << i)))
		s.is("Wide", got, err, 4, []api.Cell{{X: 4 + i%8, Y: 4 + i/8}})
		got, err = g.Wide(must(t)(s.Leaf(0)))
		s.is("Wide of none", got, err, 4, nil)
		got, err = g.Wide(must(t)(s.Leaf(math.MaxUint64)))
		if n, bad := s.Count(got); err != nil || bad != nil || n != 64 {
			t.Errorf("Wide of all: %d cells, %v", n, err)
		}
	}
}

// GW1: squares of each level made wide, with cells in their corners and about their middle; of level 40 none is, and nothing is made.
func TestWideLevels(t *testing.T) {
	for level := 3; level <= 40; level++ {
		s := storeOf(t, 65536)
		g := s.grower(life)
		last := 1<<level - 1
		l := append(marked(level), api.Cell{}, api.Cell{X: last}, api.Cell{Y: last}, api.Cell{X: last, Y: last})
		for _, id := range []int{s.put(level, l), must(t)(s.Empty(level))} {
			before := s.tells()
			wide, err := g.Wide(id)
			if level == 40 {
				fails(t, "Wide of level 40", wide, err, api.ErrLimit)
				s.stays("Wide of level 40", before)
				continue
			}
			s.is("Wide", wide, err, level+1, moved(s.cells(id), 1<<(level-1), 1<<(level-1)))
			if got, err := g.Center(wide); got != id || err != nil {
				t.Errorf("the middle of the wide one: %d, %v, want %d", got, err, id)
			}
		}
	}
}

// GW1: a square made wide over and over, from a tile to level 40, and its middle as often.
func TestWideOver(t *testing.T) {
	s := storeOf(t, 1000)
	g := s.grower(life)
	ids := []int{must(t)(s.Leaf(0x8100000000000081))}
	for level := 4; level <= 40; level++ {
		ids = append(ids, must(t)(g.Wide(ids[len(ids)-1])))
	}
	id := ids[37]
	half := 1 << 39
	s.is("Wide from a tile on", id, nil, 40, []api.Cell{{X: half - 4, Y: half - 4}, {X: half + 3, Y: half - 4}, {X: half - 4, Y: half + 3}, {X: half + 3, Y: half + 3}})
	for level := 39; level >= 3; level-- {
		if id = must(t)(g.Center(id)); id != ids[level-3] {
			t.Fatalf("the middle of level %d: %d, want %d", level, id, ids[level-3])
		}
	}
}

// GW1: a store and its Growers go on with each other: what one makes, all find.
func TestOneStore(t *testing.T) {
	s := storeOf(t, 1000)
	first, second := s.grower(life), s.grower(parity)
	id := s.put(5, moved(glider, 12, 13))
	wide := must(t)(first.Wide(id))
	n := s.Len()
	if got, err := second.Wide(id); got != wide || err != nil || s.Len() != n {
		t.Errorf("Wide by another Grower: %d, %v, want %d", got, err, wide)
	}
	if got := s.put(6, moved(glider, 28, 29)); got != wide {
		t.Errorf("the square of the same cells: %d, want %d", got, wide)
	}
	other := storeOf(t, 1000)
	got, err := other.grower(life).Wide(id)
	fails(t, "Wide of another store's square", got, err, api.ErrNone)
}
