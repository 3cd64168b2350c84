package frames

import (
	"math"
	"testing"

	"quilt/api"
	"quilt/chance"
	"quilt/rule"
	"quilt/tile"
)

// wrongLaws are rules that may not be: Born for 0, or a bit above 8, in one part or both.
func wrongLaws() []rule.Rule {
	l := []rule.Rule{{Born: 1}, {Born: 9, Live: 12}, {Born: 0x1ff, Live: 0x1ff}, {Born: 0xffff, Live: 0xffff}}
	for bit := 9; bit < 16; bit++ {
		high := uint16(1) << bit
		l = append(l, rule.Rule{Born: high}, rule.Rule{Live: high}, rule.Rule{Born: 8 | high, Live: 12}, rule.Rule{Born: 8, Live: 12 | high}, rule.Rule{Born: 1 | high, Live: high})
	}
	return l
}

// FR1: New of a store and of none, of rules that can be and that can't, and of both at once; nothing is under way, and the store is not felt by it.
func TestNew(t *testing.T) {
	c := chance.Chance(8)
	s := storeOf(t, 10)
	must(t)(s.Empty(5))
	before := s.tells()
	for _, r := range someLaws(&c) {
		m, err := New(nil, r)
		if m != nil || !isError(err, api.ErrArg) {
			t.Errorf("New of no store: %v, %v", m, err)
		}
		m = s.machine(r)
		idle(t, "behind New", m)
		none(t, "behind New", m)
	}
	for _, r := range wrongLaws() {
		m, err := New(s.Store, r)
		if m != nil || !isError(err, api.ErrRule) {
			t.Errorf("New of a rule that can't be: %v, %v", m, err)
		}
		m, err = New(nil, r)
		if m != nil || !isError(err, api.ErrArg) {
			t.Errorf("New of no store, and of a rule that can't be: %v, %v", m, err)
		}
	}
	s.stays("New", before)
	if s := storeOf(t, 1); s.machine(life) == nil || s.Len() != 0 {
		t.Error("New of a store without squares makes some")
	}
}

// A nil Machine, asked for what may be, and for what may not.
func TestNil(t *testing.T) {
	var m *Machine
	for _, n := range []int{0, 1, -1, 2, 3, 4, 40, 41, math.MinInt, math.MaxInt} {
		for _, j := range append([]int{0, 1, n}, farAway...) {
			wrong(t, "Begin", m.Begin(n, j), api.ErrArg)
			wrong(t, "Load", m.Load([]Frame{{ID: n, J: j}}), api.ErrArg)
		}
		got, err := m.Run(n)
		fails(t, "Run", got, err, api.ErrArg)
		wrong(t, "Load", m.Load(make([]Frame, min(max(n, 0), 50))), api.ErrArg)
		none(t, "of nil", m)
		if l := m.Frames(); len(l) != 0 {
			t.Errorf("Frames of nil: %v", l)
		}
	}
}

// FR1: squares of each level by each j that can be, and by what can't: below 0, one too far, far too far. Where a square is not there, that is told first; where something is under way, that is.
func TestBegin(t *testing.T) {
	for level := 4; level <= 40; level++ {
		s := storeOf(t, 100)
		id := must(t)(s.Empty(level))
		before := s.tells()
		for j := range level - 1 {
			m := s.machine(life)
			right(t, "Begin", m.Begin(id, j))
			want := []Frame{{ID: id, J: j}}
			sameFrames(t, "behind Begin", m.Frames(), want)
			none(t, "behind Begin", m)
			for _, other := range append(notThere(s.Len()), id, 1) {
				for _, by := range []int{-1, 0, j, level - 2, level - 1} {
					wrong(t, "Begin while something is under way", m.Begin(other, by), api.ErrState)
				}
			}
			sameFrames(t, "behind what did not begin", m.Frames(), want)
		}
		m := s.machine(life)
		for _, j := range append([]int{-1, level - 1, level, level + 1, -level}, farAway...) {
			wrong(t, "Begin by what can't be", m.Begin(id, j), api.ErrArg)
			for _, away := range notThere(s.Len()) {
				wrong(t, "Begin of none by what can't be", m.Begin(away, j), api.ErrNone)
			}
		}
		for _, away := range notThere(s.Len()) {
			wrong(t, "Begin of none", m.Begin(away, 0), api.ErrNone)
		}
		idle(t, "behind what did not begin", m)
		s.stays("Begin", before)
	}
}

// FR1: no tile goes on, with cells or without.
func TestBeginTile(t *testing.T) {
	s := storeOf(t, 100)
	m := s.machine(life)
	for i := range 65 {
		id := must(t)(s.Leaf(tile.Tile(1) << i))
		for _, j := range append([]int{0, 1, 2, 3}, farAway...) {
			wrong(t, "Begin of a tile", m.Begin(id, j), api.ErrArg)
		}
	}
	idle(t, "behind tiles", m)
}

// FR1: what was not there when it was asked for begins when it is.
func TestThereLater(t *testing.T) {
	s := storeOf(t, 100)
	m := s.machine(life)
	wrong(t, "Begin of none", m.Begin(2, 0), api.ErrNone)
	must(t)(s.Empty(4))
	right(t, "Begin of what is there now", m.Begin(2, 0))
	runs(t, m, 2, 1)
	ended(t, "of what is there now", m, 1)
}

// FR1: numbers of steps below 1, of less than are left, of just as many, of one more, and of many more.
func TestRun(t *testing.T) {
	c := chance.Chance(9)
	for level := 4; level <= 6; level++ {
		p := sheetOf(1<<level, func(int, int) bool { return c.Below(2) == 0 })
		for j := range level - 1 {
			s := storeOf(t, 65536)
			id := s.lay(p)
			all, out := s.allSteps(life, id, j), s.grown(life, id, j)
			for _, n := range []int{all - 1, all, all + 1, all + 1000, 1 << 31, 1 << 32, 1<<32 + 1, 1 << 62, math.MaxInt - 1, math.MaxInt} {
				m := s.machine(life)
				right(t, "Begin", m.Begin(id, j))
				for _, no := range []int{0, -1, -2, -all, -1 << 31, -1 << 32, 1 - 1<<32, math.MinInt, math.MinInt + 1} {
					runs(t, m, no, 0)
				}
				sameFrames(t, "behind steps of none", m.Frames(), []Frame{{ID: id, J: j}})
				runs(t, m, n, min(n, all))
				if n < all {
					none(t, "one step ahead of the end", m)
					if len(m.Frames()) != 1 {
						t.Fatalf("one step ahead of the end: %+v", m.Frames())
					}
					runs(t, m, math.MaxInt, 1)
				}
				idle(t, "behind the end", m)
				ended(t, "behind the end", m, out)
			}
		}
	}
}

// allSteps are how many there are for a machine that remembers nothing of before.
func (s store) allSteps(r rule.Rule, id, j int) int {
	s.t.Helper()
	m := s.machine(r)
	right(s.t, "Begin", m.Begin(id, j))
	n, err := m.Run(math.MaxInt)
	if n < 1 || err != nil {
		s.t.Fatalf("Run of all: %d, %v", n, err)
	}
	return n
}

// FR1: the document's example.
func TestOneStep(t *testing.T) {
	s := storeOf(t, 100)
	for j := range 3 {
		if n := s.allSteps(life, must(t)(s.Empty(4)), j); n != 1 {
			t.Errorf("steps of a square of level 4 by %d: %d", j, n)
		}
	}
}

// FR2: Out ahead of anything, while something is under way, behind its end, behind what could not begin or load, behind another Begin, and behind Load.
func TestOut(t *testing.T) {
	s := storeOf(t, 1000)
	glide := s.put(5, moved(glider, 12))
	still := s.put(5, []api.Cell{{X: 15, Y: 15}, {X: 16, Y: 15}, {X: 15, Y: 16}, {X: 16, Y: 16}})
	m := s.machine(life)
	none(t, "ahead of anything", m)
	right(t, "Begin", m.Begin(glide, 2))
	for n := plainSteps(5, 2); n > 0; n-- {
		none(t, "while something is under way", m)
		runs(t, m, 0, 0)
		none(t, "behind steps of none", m)
		if runs(t, m, 1, 1); len(m.Frames()) == 0 {
			break
		}
	}
	out := s.put(4, moved(glider, 5))
	for range 2 {
		ended(t, "behind its end", m, out)
		idle(t, "behind its end", m)
	}
	wrong(t, "Begin of none", m.Begin(0, 0), api.ErrNone)
	wrong(t, "Begin by what can't be", m.Begin(glide, 4), api.ErrArg)
	wrong(t, "Load of nothing", m.Load(nil), api.ErrForm)
	ended(t, "behind what was not begun", m, out)
	right(t, "Begin", m.Begin(still, 3))
	none(t, "behind another Begin", m)
	runs(t, m, 3, 3)
	l := m.Frames()
	none(t, "while another is under way", m)
	if n, err := m.Run(math.MaxInt); n < 1 || err != nil {
		t.Fatalf("Run to the end: %d, %v", n, err)
	}
	block := s.put(4, []api.Cell{{X: 7, Y: 7}, {X: 8, Y: 7}, {X: 7, Y: 8}, {X: 8, Y: 8}})
	ended(t, "behind another end", m, block)
	right(t, "Load", m.Load(l))
	none(t, "behind Load", m)
	if n, err := m.Run(math.MaxInt); n < 1 || err != nil {
		t.Fatalf("Run to the end: %d, %v", n, err)
	}
	ended(t, "behind what was loaded", m, block)
}
