package frames

import (
	"math"
	"testing"

	"quilt/api"
	"quilt/chance"
)

// just is a store in which a sheet's square is, with room for so many more, and that square.
func just(t *testing.T, p sheet, more int) (store, int) {
	t.Helper()
	most := storeOf(t, 65536)
	most.lay(p)
	s := storeOf(t, most.Len()+more)
	return s, s.lay(p)
}

// full asks that a store has no room left.
func (s store) full(what string) {
	s.t.Helper()
	got, err := s.Leaf(0x123456789abcdef)
	fails(s.t, what, got, err, api.ErrLimit)
}

// FR1: with less room and less, up to just enough: at once, or step by step, it ends, and rightly, or there is no room, and then nothing is under way. Each room that is too little is told at the same step.
func TestLimit(t *testing.T) {
	c := chance.Chance(10)
	for level := 4; level <= 6; level++ {
		p := sheetOf(1<<level, func(int, int) bool { return c.Below(3) == 0 })
		for j := range level - 1 {
			s, id := just(t, p, 10000)
			before := s.tells()
			s.allSteps(life, id, j)
			needs := s.Len() - len(before)
			if needs < 1 {
				t.Fatalf("of level %d by %d no squares are made", level, j)
			}
			out := p.on(life, 1<<j).middle()
			last := 0
			for more := 0; more <= needs; more += 1 + more/5 {
				n := runWithin(t, p, j, more, out, more == needs)
				if n < last {
					t.Fatalf("with room for %d: %d steps, and with less there were %d", more, n, last)
				}
				last = n
			}
			runWithin(t, p, j, needs-1, out, false)
			runWithin(t, p, j, needs, out, true)
		}
	}
}

// runWithin runs with room for so many squares more than there are, and is how many steps were done.
func runWithin(t *testing.T, p sheet, j, more int, want sheet, enough bool) int {
	t.Helper()
	s, id := just(t, p, more)
	before := s.tells()
	m := s.machine(life)
	right(t, "Begin", m.Begin(id, j))
	steps := 0
	for len(m.Frames()) > 0 {
		n, err := m.Run(1)
		if err != nil {
			fails(t, "Run with little room", n, err, api.ErrLimit)
			break
		}
		steps++
	}
	s.keeps("Run with little room", before)
	idle(t, "behind Run", m)
	if out, ok := m.Out(); ok != enough || ok && s.sheet(out) != want {
		t.Fatalf("Out with room for %d: %d, %v", more, out, ok)
	}
	s.full("behind Run")
	atOnce(t, p, j, more, steps, enough)
	if enough {
		// What is there is not made again: a full store is no limit to another machine.
		if s.allSteps(life, id, j) != steps {
			t.Fatal("in a full store there are more steps, or less")
		}
		return steps
	}
	none(t, "behind ErrLimit", m)
	then := s.tells()
	for range 2 {
		right(t, "Begin behind ErrLimit", m.Begin(id, j))
		sameFrames(t, "Begin behind ErrLimit", m.Frames(), []Frame{{ID: id, J: j}})
		n, err := m.Run(math.MaxInt)
		fails(t, "Run behind ErrLimit", n, err, api.ErrLimit)
		idle(t, "behind ErrLimit again", m)
		s.stays("Run in a full store", then)
	}
	return steps
}

// atOnce runs in as many steps as can be done and in more, where there is room for so many.
func atOnce(t *testing.T, p sheet, j, more, steps int, enough bool) {
	t.Helper()
	s, id := just(t, p, more)
	m := s.machine(life)
	right(t, "Begin", m.Begin(id, j))
	runs(t, m, steps, steps)
	if enough {
		idle(t, "behind Run at once", m)
		return
	}
	l := m.Frames()
	if len(l) == 0 {
		t.Fatal("nothing is under way ahead of ErrLimit")
	}
	n, err := m.Run(1)
	fails(t, "one step more", n, err, api.ErrLimit)
	idle(t, "behind one step more", m)
	// The squares of what was under way are there still.
	right(t, "Load behind ErrLimit", m.Load(l))
	sameFrames(t, "Load behind ErrLimit", m.Frames(), l)
	n, err = m.Run(math.MaxInt)
	fails(t, "many steps more", n, err, api.ErrLimit)
	idle(t, "behind many steps more", m)
	s, id = just(t, p, more)
	m = s.machine(life)
	right(t, "Begin", m.Begin(id, j))
	n, err = m.Run(steps + 1)
	fails(t, "Run of one too many", n, err, api.ErrLimit)
	idle(t, "Run of one too many", m)
}

// FR1: behind an ErrLimit other squares go on, and what came ahead of it is remembered.
func TestBehindLimit(t *testing.T) {
	c := chance.Chance(11)
	p := sheetOf(32, func(int, int) bool { return c.Below(3) == 0 })
	s, id := just(t, p, 1)
	m := s.machine(life)
	kids, err := s.Kids(id)
	right(t, "Kids", err)
	right(t, "Begin", m.Begin(id, 3))
	// The first of its nine is there already: that it is begun, and ends, has room; the second one has none.
	n, err := m.Run(math.MaxInt)
	fails(t, "Run with room for one", n, err, api.ErrLimit)
	right(t, "Begin", m.Begin(id, 3))
	runs(t, m, 1, 1)
	if l := m.Frames(); len(l) != 1 || l[0].Step != 1 || len(l[0].Got) != 1 {
		t.Fatalf("what came ahead of ErrLimit, asked for again: %+v", l)
	}
	n, err = m.Run(1)
	fails(t, "Run without room", n, err, api.ErrLimit)
	right(t, "Begin of a part", m.Begin(kids[0], 2))
	runs(t, m, 5, 1)
	ended(t, "a part behind ErrLimit", m, s.grown(life, kids[0], 2))
	right(t, "Begin of another part", m.Begin(kids[3], 2))
	n, err = m.Run(1)
	fails(t, "another part", n, err, api.ErrLimit)
	none(t, "another part", m)
}

// FR1: nothing of nothing needs no room.
func TestFull(t *testing.T) {
	s := storeOf(t, 38)
	must(t)(s.Empty(40))
	m := s.machine(life)
	for level := 4; level <= 40; level++ {
		for _, j := range []int{0, level / 2, level - 2} {
			right(t, "Begin", m.Begin(level-2, j))
			if n, err := m.Run(math.MaxInt); n < 1 || err != nil {
				t.Fatalf("of nothing, of level %d by %d: %d, %v", level, j, n, err)
			}
			ended(t, "of nothing", m, level-3)
		}
	}
	if s.Len() != 38 {
		t.Errorf("squares of nothing: %d", s.Len())
	}
}
