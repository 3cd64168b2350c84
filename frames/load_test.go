package frames

import (
	"math"
	"slices"
	"testing"

	"quilt/api"
	"quilt/chance"
)

// refuses asks that frames can't be loaded, and that nothing comes of it.
func (s store) refuses(what string, m *Machine, l []Frame) {
	s.t.Helper()
	n, before := s.Len(), deep(l)
	wrong(s.t, what, m.Load(l), api.ErrForm)
	if len(m.Frames()) != 0 || s.Len() != n {
		s.t.Fatalf("%s: under way are %+v, and there are %d squares, and were %d", what, m.Frames(), s.Len(), n)
	}
	sameFrames(s.t, what+": what was handed in", l, before)
}

// takes asks that frames can be loaded, and are under way then.
func (s store) takes(what string, l []Frame) {
	s.t.Helper()
	n, before := s.Len(), deep(l)
	m := s.machine(life)
	right(s.t, what, m.Load(l))
	sameFrames(s.t, what, m.Frames(), before)
	sameFrames(s.t, what+": what was handed in", l, before)
	none(s.t, what, m)
	if s.Len() != n {
		s.t.Fatalf("%s: there are %d squares, and were %d", what, s.Len(), n)
	}
}

// states are all that a machine tells while it goes over a square: some of them with several frames.
func (s store) states(id, j int) [][]Frame {
	s.t.Helper()
	m := s.machine(life)
	right(s.t, "Begin", m.Begin(id, j))
	var all [][]Frame
	for l := m.Frames(); len(l) > 0; l = m.Frames() {
		all = append(all, deep(l))
		runs(s.t, m, 1, 1)
	}
	return all
}

// someStates are such of squares of levels 4 to 6, by each j.
func (s store) someStates(c *chance.Chance) [][]Frame {
	s.t.Helper()
	var all [][]Frame
	for level := 4; level <= 6; level++ {
		id := s.lay(sheetOf(1<<level, func(int, int) bool { return c.Below(2) == 0 }))
		for j := range level - 1 {
			all = append(all, s.states(id, j)...)
		}
	}
	return all
}

// FR2: all that a machine tells can be loaded, and so can what stands upon a part of it, and what is beneath.
func TestLoadTold(t *testing.T) {
	c := chance.Chance(12)
	s := storeOf(t, 65536)
	for _, l := range s.someStates(&c) {
		for from := range l {
			s.takes("frames from one of them on", l[from:])
			s.takes("frames up to one of them", l[:from+1])
		}
	}
}

// FR2: while something is under way nothing is loaded, be it good or not; behind its end it is.
func TestLoadState(t *testing.T) {
	s := storeOf(t, 1000)
	id := must(t)(s.Empty(6))
	good := s.states(id, 4)[2]
	lists := [][]Frame{nil, {}, good, good[:1], {{}}, {{ID: -1}}, {{ID: id, J: 5}}, make([]Frame, 41)}
	m := s.machine(life)
	right(t, "Begin", m.Begin(id, 3))
	for len(m.Frames()) > 0 {
		before := deep(m.Frames())
		for _, l := range lists {
			wrong(t, "Load while something is under way", m.Load(l), api.ErrState)
		}
		sameFrames(t, "behind what was not loaded", m.Frames(), before)
		runs(t, m, 1, 1)
	}
	out, _ := m.Out()
	for i, l := range lists {
		if i != 2 && i != 3 {
			s.refuses("frames that can't be", m, l)
			ended(t, "behind what was not loaded", m, out)
		}
	}
	right(t, "Load behind the end", m.Load(good))
	wrong(t, "Load behind Load", m.Load(good), api.ErrState)
	wrong(t, "Begin behind Load", m.Begin(id, 0), api.ErrState)
	sameFrames(t, "behind Load", m.Frames(), good)
}

// FR2: no frame, 37 of them, which is as many as there can be, and more; 40 and 41 of any.
func TestLoadMany(t *testing.T) {
	s := storeOf(t, 1000)
	m := s.machine(life)
	s.refuses("no frame", m, nil)
	s.refuses("no frame", m, []Frame{})
	s.refuses("no frame of several", m, []Frame{{ID: 1}}[:0])
	id := must(t)(s.Empty(40))
	right(t, "Begin", m.Begin(id, 38))
	runs(t, m, 36, 36)
	l := m.Frames()
	if len(l) != 37 {
		t.Fatalf("frames of level 40 down to 4: %d", len(l))
	}
	runs(t, m, math.MaxInt, 36*14+1-36)
	ended(t, "of level 40", m, id-1)
	s.takes("37 frames", l)
	for n := 38; n <= 45; n++ {
		s.refuses("more than 37 frames", m, append(slices.Clone(l), slices.Repeat(l[36:], n-37)...))
		s.refuses("more than 37 frames", m, append(slices.Repeat(l[:1], n-37), l...))
	}
	for _, n := range []int{2, 39, 40, 41, 42, 1000} {
		for _, f := range []Frame{{}, {ID: 2}, {ID: 3, J: 3}, {ID: id, J: 38}} {
			s.refuses("frames over and over", m, slices.Repeat([]Frame{f}, n))
		}
	}
}

// FR2: one frame: its square, its level, its j.
func TestLoadOne(t *testing.T) {
	s := storeOf(t, 65536)
	m := s.machine(life)
	must(t)(s.Empty(40))
	for level := 3; level <= 40; level++ {
		id := level - 2
		for j := range level - 1 {
			if level == 3 {
				s.refuses("a frame of a tile", m, []Frame{{ID: id, J: j}})
				continue
			}
			s.takes("a frame", []Frame{{ID: id, J: j}})
		}
		for _, j := range append([]int{-1, level - 1, level, -level}, farAway...) {
			s.refuses("a frame of a j that can't be", m, []Frame{{ID: id, J: j}})
		}
	}
	for _, away := range notThere(s.Len()) {
		for _, j := range []int{0, 1, 2, 38, -1} {
			s.refuses("a frame of none", m, []Frame{{ID: away, J: j}})
		}
	}
}

// FR2: Step, and Got: as many as there are, from 0 to 13, and none of level 4; squares that are there, of two levels below.
func TestLoadGot(t *testing.T) {
	s := storeOf(t, 65536)
	must(t)(s.Empty(40))
	m := s.machine(life)
	for level := 4; level <= 40; level++ {
		id := level - 2
		for n := range 17 {
			got := slices.Repeat([]int{max(id-2, 1)}, n)
			for _, j := range []int{0, level - 2} {
				if n == 0 || level > 4 && n <= 13 {
					s.takes("a frame with steps", []Frame{{id, j, n, got}})
				} else {
					s.refuses("a frame with too many steps", m, []Frame{{id, j, n, got}})
				}
				for _, step := range []int{-1, n - 1, n + 1, 13 - n, 14, n + 1<<32, math.MinInt, math.MaxInt} {
					if step != n {
						s.refuses("a Step that is not how many there are", m, []Frame{{id, j, step, got}})
					}
				}
			}
		}
		if level == 4 {
			continue
		}
		for n := 1; n <= 13; n++ {
			for at := range n {
				for _, bad := range []int{id - 3, id - 1, id, id + 1, 0, -1, s.Len() + 1, math.MinInt, math.MaxInt, id - 2 + 1<<32} {
					got := slices.Repeat([]int{id - 2}, n)
					got[at] = bad
					s.refuses("a Got that can't be", m, []Frame{{id, 1, n, got}})
				}
			}
		}
	}
}

// FR2: Got is not worked out again: any squares of the level do. What comes of them is the machine's to end.
func TestLoadAnyGot(t *testing.T) {
	c := chance.Chance(13)
	s := storeOf(t, 65536)
	id := must(t)(s.Empty(6))
	var fours []int
	for range 10 {
		fours = append(fours, s.lay(sheetOf(16, func(int, int) bool { return c.Below(2) == 0 })))
	}
	for n := range 14 {
		var got []int
		for range n {
			got = append(got, fours[c.Below(len(fours))])
		}
		for j := range 5 {
			l := []Frame{{id, j, n, got}}
			s.takes("any squares", l)
			m := s.machine(life)
			right(t, "Load", m.Load(l))
			if n, err := m.Run(math.MaxInt); n < 1 || err != nil {
				t.Fatalf("Run with any squares: %d, %v", n, err)
			}
			out, ok := m.Out()
			if level, err := s.Level(out); !ok || level != 5 || err != nil {
				t.Fatalf("what comes of any squares: %d, %v, of level %d", out, ok, level)
			}
			if n == 13 {
				kids, err := s.Kids(out)
				if err != nil || !slices.Equal(kids[:], got[9:]) {
					t.Fatalf("what comes of all parts: %v, %v, want %v", kids, err, got[9:])
				}
			}
		}
	}
}

// changed are frames of which one is not as it was.
func changed(l []Frame, i int, change func(f *Frame)) []Frame {
	d := deep(l)
	change(&d[i])
	return d
}

// FR2: a frame stands on another one only as its next part: the right square, by the right j, behind the right number of steps.
func TestLoadNext(t *testing.T) {
	c := chance.Chance(14)
	s := storeOf(t, 65536)
	m := s.machine(life)
	all := s.someStates(&c)
	other := s.lay(sheetOf(32, func(int, int) bool { return c.Below(2) == 0 }))
	for _, l := range all {
		for i := 1; i < len(l); i++ {
			for _, id := range []int{l[i].ID + 1, l[i].ID - 1, l[i-1].ID, other, 0, s.Len() + 1} {
				s.refuses("another square", m, changed(l, i, func(f *Frame) { f.ID = id }))
			}
			for _, j := range []int{l[i].J - 1, l[i].J + 1, l[i].J + 2} {
				s.refuses("another j", m, changed(l, i, func(f *Frame) { f.J = j }))
			}
			if n := l[i-1].Step; n > 0 {
				s.refuses("one step less beneath", m, changed(l, i-1, func(f *Frame) { f.Step, f.Got = n-1, f.Got[:n-1] }))
			}
			more := append(slices.Clone(l[i-1].Got), s.anyOf(must(t)(s.Level(l[i-1].ID))-2))
			s.refuses("one step more beneath", m, changed(l, i-1, func(f *Frame) { f.Step, f.Got = len(more), more }))
			if i+1 < len(l) {
				s.refuses("one left out", m, slices.Delete(deep(l), i, i+1))
			}
		}
		if len(l) > 1 {
			back := deep(l)
			slices.Reverse(back)
			s.refuses("the other way round", m, back)
		}
		s.refuses("one twice", m, append(deep(l), deep(l[len(l)-1:])...))
	}
}

// anyOf is a square of a level.
func (s store) anyOf(level int) int {
	s.t.Helper()
	return must(s.t)(s.Empty(level))
}

// FR2: nothing stands on a frame whose next part is a middle, or that has no part left, or none at all.
func TestLoadNoPart(t *testing.T) {
	s := storeOf(t, 1000)
	m := s.machine(life)
	must(t)(s.Empty(40))
	for level := 4; level <= 40; level++ {
		id := level - 2
		for n := range partsOf(level) + 1 {
			for _, j := range []int{0, level / 2, level - 2} {
				low := Frame{id, j, n, slices.Repeat([]int{max(id-2, 1)}, n)}
				for by := range level {
					// All squares of a level are one here, so that the number of steps and the j alone decide.
					l := []Frame{low, {ID: id - 1, J: by}}
					far := j == level-2
					if level > 4 && n < 13 && (far && by == j-1 || !far && n >= 9 && by == j) {
						s.takes("a next part", l)
					} else {
						s.refuses("no next part", m, l)
					}
				}
			}
		}
	}
}

// FR2: the square of a next part need not be there; then no frame can be it, and none is made, be there room or not.
func TestLoadNotMade(t *testing.T) {
	c := chance.Chance(15)
	p := sheetOf(64, func(int, int) bool { return c.Below(2) == 0 })
	for _, more := range []int{0, 1000} {
		s, id := just(t, p, more)
		m := s.machine(life)
		before := s.tells()
		first := before[id-1].kids[0]
		for n := 1; n <= s.Len(); n++ {
			for j := range max(before[n-1].level-1, 0) {
				if n == first && j == 3 {
					s.takes("the first of the nine", []Frame{{ID: id, J: 4}, {ID: n, J: j}})
				} else {
					s.refuses("not the first of the nine", m, []Frame{{ID: id, J: 4}, {ID: n, J: j}})
				}
				// The second one lies between two that are there.
				s.refuses("the second of the nine", m, []Frame{{id, 4, 1, before[first-1].kids[:1]}, {ID: n, J: j}})
			}
		}
		s.stays("Load", before)
	}
}

// FR2: each of the four of a next part is held against those of the frame that stands for it.
func TestLoadEachOfFour(t *testing.T) {
	c := chance.Chance(26)
	s := storeOf(t, 65536)
	m := s.machine(life)
	for _, l := range s.someStates(&c) {
		for i := 1; i < len(l); i++ {
			kids, err := s.Kids(l[i].ID)
			right(t, "Kids", err)
			for n := range kids {
				other := kids
				other[n] = s.anyOf(must(t)(s.Level(kids[n])))
				if other == kids {
					other[n] = kids[(n+1)%4]
				}
				if id := must(t)(s.Node(other)); id != l[i].ID {
					s.refuses("one of the four is another", m, changed(l[:i+1], i, func(f *Frame) { f.ID, f.Step, f.Got = id, 0, nil }))
				}
			}
		}
	}
}

// Rules 1 and 4: any frames of small numbers are taken or not; where they are, what is loaded is what was given, and it ends.
func TestLoadAny(t *testing.T) {
	c := chance.Chance(16)
	s := storeOf(t, 65536)
	for level := 3; level <= 7; level++ {
		must(t)(s.Empty(level))
	}
	s.lay(sheetOf(32, func(int, int) bool { return c.Below(2) == 0 }))
	m := s.machine(life)
	taken := 0
	for range 30000 {
		l := make([]Frame, c.Below(4))
		for i := range l {
			l[i] = Frame{ID: c.Below(7) + c.Below(2)*c.Below(20), J: c.Below(6) - c.Below(2), Step: c.Below(15) * c.Below(2)}
			if i > 0 && c.Below(3) > 0 {
				l[i].ID = l[i-1].ID - 1
			}
			for range l[i].Step {
				l[i].Got = append(l[i].Got, max(l[i].ID-2, 1))
			}
			if c.Below(9) == 0 {
				l[i].Step += c.Below(3) - 1
			}
		}
		if err := m.Load(l); err != nil {
			wrong(t, "Load of any", err, api.ErrForm)
			continue
		}
		taken++
		sameFrames(t, "Load of any", m.Frames(), l)
		if n, err := m.Run(math.MaxInt); n < 1 || err != nil {
			t.Fatalf("Run of any: %d, %v", n, err)
		}
		idle(t, "behind any", m)
	}
	if taken < 300 {
		t.Errorf("of any frames %d are taken", taken)
	}
}
