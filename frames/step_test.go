package frames

import (
	"math"
	"slices"
	"testing"

	"quilt/chance"
	"quilt/rule"
)

// isStack holds frames against those of the model, cell by cell.
func (s store) isStack(what string, l []Frame, stack []stand) {
	s.t.Helper()
	if len(l) != len(stack) {
		s.t.Fatalf("%s: %d frames, want %d", what, len(l), len(stack))
	}
	for i, f := range l {
		w := stack[i]
		if s.sheet(f.ID) != w.square || f.J != w.j || f.Step != len(w.got) || len(f.Got) != len(w.got) {
			s.t.Fatalf("%s: the frame %d: %+v, want j %d and %d steps of another square", what, i, f, w.j, len(w.got))
		}
		for n, id := range f.Got {
			if s.sheet(id) != w.got[n] {
				s.t.Fatalf("%s: the frame %d got %v, and not the %d-th of these", what, i, f.Got, n)
			}
		}
	}
}

// stepsAre runs a machine step by step beside the model, and is how many steps there were.
func (s store) stepsAre(m *Machine, w *model, id, j int) int {
	s.t.Helper()
	n := -1
	w.told = func() {
		s.t.Helper()
		if n++; n > 0 {
			runs(s.t, m, 1, 1)
		}
		s.isStack("behind a step", m.Frames(), w.stack)
		if len(w.stack) > 0 {
			none(s.t, "while something is under way", m)
		}
	}
	right(s.t, "Begin", m.Begin(id, j))
	want := w.goes(s.sheet(id), j)
	idle(s.t, "behind the last step", m)
	out, ok := m.Out()
	if !ok || s.sheet(out) != want {
		s.t.Fatalf("Out: %d, %v, and not the middle so far on", out, ok)
	}
	return n
}

// FR1, FR2: each step of squares of the levels 4 to 6 by each j, by several rules, is the one that the model does: what is under way behind it, and what came of it all.
func TestSteps(t *testing.T) {
	c := chance.Chance(1)
	for _, r := range someLaws(&c) {
		for level := 4; level <= 6; level++ {
			for _, p := range someSheets(&c, 1<<level) {
				s := storeOf(t, 65536)
				id := s.lay(p)
				for j := range level - 1 {
					n := s.stepsAre(s.machine(r), newModel(r, nil), id, j)
					if n > plainSteps(level, j) {
						t.Fatalf("steps of level %d by %d: %d", level, j, n)
					}
				}
			}
		}
	}
}

// FR1, FR2: one machine for all of it: what was done before comes at once, and no more than that does; asked again it is one step of level 4, and fourteen of a level above.
func TestStepsKnown(t *testing.T) {
	c := chance.Chance(2)
	for _, r := range someLaws(&c) {
		s := storeOf(t, 65536)
		m, w := s.machine(r), newModel(r, nil)
		for level := 4; level <= 6; level++ {
			for _, p := range someSheets(&c, 1<<level) {
				id := s.lay(p)
				for j := range level - 1 {
					s.stepsAre(m, w, id, j)
					want := 14
					if level == 4 {
						want = 1
					}
					if n := s.stepsAre(m, w, id, j); n != want {
						t.Fatalf("done again, of level %d by %d: %d steps, want %d", level, j, n, want)
					}
				}
			}
		}
	}
}

// FR1: where nothing comes twice, there are as many steps as the chapter's words have.
func TestStepsPlain(t *testing.T) {
	c := chance.Chance(3)
	for level := 4; level <= 8; level++ {
		s := storeOf(t, 65536)
		id := s.lay(sheetOf(1<<level, func(int, int) bool { return c.Below(2) == 0 }))
		for j := range level - 1 {
			if j > 2 && level > 5 {
				break // two of the four have some of their nine in common
			}
			m := s.machine(parity)
			right(t, "Begin", m.Begin(id, j))
			runs(t, m, math.MaxInt, plainSteps(level, j))
			ended(t, "where nothing comes twice", m, s.grown(parity, id, j))
		}
	}
}

// FR1: parts first, and then the whole: its four, or its nine, come at once.
func TestPartsFirst(t *testing.T) {
	c := chance.Chance(4)
	p := sheetOf(32, func(int, int) bool { return c.Below(2) == 0 })
	s := storeOf(t, 65536)
	id := s.lay(p)
	for _, k := range []struct{ at, row, j, whole, want int }{
		{0, 3, 2, 3, 18},  // the nine: each is one step then, and four are begun
		{0, 1, 2, 3, 26},  // the first of the nine
		{16, 1, 2, 3, 26}, // the last one
		{0, 3, 1, 3, 27},  // the nine, by another j: they are other parts
		{0, 3, 2, 2, 18},  // the nine, where their middles are asked for
		{4, 2, 1, 1, 14},  // the four, as they are now
		{4, 1, 1, 1, 17},  // the first of the four
		{4, 2, 0, 1, 18},  // the four, by another j
		{4, 2, 2, 3, 27},  // the four as they are now, where they go on first
	} {
		m := s.machine(parity)
		for i := range k.row * k.row {
			right(t, "Begin", m.Begin(s.lay(p.cut(k.at+i%k.row*8, k.at+i/k.row*8, 16)), k.j))
			runs(t, m, 2, 1)
		}
		right(t, "Begin", m.Begin(id, k.whole))
		runs(t, m, math.MaxInt, k.want)
		ended(t, "behind its parts", m, s.grown(parity, id, k.whole))
	}
}

// FR1: what one machine remembers is not another one's, of the same store or of another one, by the same rule or by another.
func TestMachinesApart(t *testing.T) {
	c := chance.Chance(5)
	p := sheetOf(32, func(int, int) bool { return c.Below(2) == 0 })
	s := storeOf(t, 65536)
	id := s.lay(p)
	for j := range 4 {
		first, second, other := s.machine(life), s.machine(life), s.machine(parity)
		for _, m := range []*Machine{first, second, other} {
			right(t, "Begin", m.Begin(id, j))
		}
		// By turns, so that what they make meets in the store.
		for range plainSteps(5, j) {
			for _, m := range []*Machine{first, second, other} {
				runs(t, m, 1, 1)
			}
		}
		ended(t, "one", first, s.grown(life, id, j))
		ended(t, "the second", second, s.grown(life, id, j))
		ended(t, "by another rule", other, s.grown(parity, id, j))
		for _, m := range []*Machine{first, second, other} {
			idle(t, "behind its end", m)
		}
	}
}

// FR2: what is told on the way, of one frame and of several, number by number.
func TestFramesTold(t *testing.T) {
	s := storeOf(t, 1000)
	id := must(t)(s.Empty(6)) // 4: of four times 3, of four times 2, of four times 1
	m := s.machine(life)
	idle(t, "ahead of anything", m)
	right(t, "Begin", m.Begin(id, 4))
	low := func(step int, got ...int) Frame { return Frame{4, 4, step, got} }
	for _, want := range [][]Frame{
		{low(0)},
		{low(0), {ID: 3, J: 3}},
		{low(0), {ID: 3, J: 3}, {ID: 2, J: 2}},
		{low(0), {3, 3, 1, []int{1}}},
		{low(0), {3, 3, 2, []int{1, 1}}},
	} {
		sameFrames(t, "of level 6", m.Frames(), want)
		runs(t, m, 1, 1)
	}
	runs(t, m, 9, 9) // 12 of 13 parts
	sameFrames(t, "of level 6", m.Frames(), []Frame{low(0), {3, 3, 12, slices.Repeat([]int{1}, 12)}})
	runs(t, m, 2, 2)
	sameFrames(t, "behind the first of its nine", m.Frames(), []Frame{low(1, 2)})
	runs(t, m, 12, 12)
	sameFrames(t, "behind all of its parts", m.Frames(), []Frame{low(13, slices.Repeat([]int{2}, 13)...)})
	none(t, "one step ahead of the end", m)
	runs(t, m, 1, 1)
	idle(t, "behind its end", m)
	ended(t, "nothing", m, 3)
}

// Rule 4: the same calls of two stores tell the same.
func TestSameAgain(t *testing.T) {
	run := func() []int {
		c := chance.Chance(6)
		s := storeOf(t, 65536)
		m := s.machine(life)
		var l []int
		for _, p := range someSheets(&c, 64) {
			right(t, "Begin", m.Begin(s.lay(p), c.Below(5)))
			for len(m.Frames()) > 0 {
				n, err := m.Run(1 + c.Below(20))
				right(t, "Run", err)
				l = append(l, n, s.Len())
				for _, f := range m.Frames() {
					l = append(append(l, f.ID, f.J, f.Step), f.Got...)
				}
			}
			out, _ := m.Out()
			l = append(l, out)
		}
		return l
	}
	first := run()
	for range 2 {
		if !slices.Equal(run(), first) {
			t.Fatal("the same calls tell something else")
		}
	}
}

// FR1: the rule is the one that New was given: each rule of B3 and S23 with one number more or less.
func TestNearLaws(t *testing.T) {
	c := chance.Chance(7)
	for n := range 9 {
		for _, r := range []rule.Rule{{Born: life.Born ^ 1<<n, Live: life.Live}, {Born: life.Born, Live: life.Live ^ 1<<n}} {
			if rule.Check(r) == nil {
				s := storeOf(t, 65536)
				id := s.lay(sheetOf(32, func(int, int) bool { return c.Below(3) == 0 }))
				s.stepsAre(s.machine(r), newModel(r, nil), id, 3)
				s.stepsAre(s.machine(r), newModel(r, nil), id, 1)
			}
		}
	}
}
