package frames

import (
	"math"
	"testing"

	"quilt/api"
	"quilt/chance"
	"quilt/rule"
)

// FR3: squares of the levels 4 to 7 by each j, by several rules: at once, step by step, and in parts of any size, it is what Grow answers, in as many steps.
func TestInParts(t *testing.T) {
	c := chance.Chance(17)
	for _, r := range someLaws(&c) {
		for level := 4; level <= 7; level++ {
			s := storeOf(t, 65536)
			for _, p := range someSheets(&c, 1<<level)[1:3] {
				id := s.lay(p)
				for j := range level - 1 {
					before := s.tells()
					out, all := s.grown(r, id, j), s.allSteps(r, id, j)
					for _, most := range []int{1, 7, 100, all} {
						m, n := s.machine(r), 0
						right(t, "Begin", m.Begin(id, j))
						for len(m.Frames()) > 0 {
							ask := most
							if most > 1 && most < all {
								ask = c.Below(most)
							}
							runs(t, m, ask, min(ask, all-n))
							n += min(ask, all-n)
						}
						if n != all {
							t.Fatalf("in parts: %d steps, and at once %d", n, all)
						}
						ended(t, "in parts", m, out)
					}
					s.keeps("Run", before)
				}
			}
		}
	}
}

// FR3: stopped behind each number of steps, and loaded by another machine, it ends as it would have; what was done since is done as the model has it, which remembers nothing then.
func TestStopAnywhere(t *testing.T) {
	c := chance.Chance(18)
	for _, r := range []rule.Rule{life, parity} {
		for level := 4; level <= 6; level++ {
			for _, p := range someSheets(&c, 1<<level)[1:] {
				s := storeOf(t, 65536)
				id := s.lay(p)
				for j := range level - 1 {
					all, out := s.allSteps(r, id, j), s.grown(r, id, j)
					first := s.machine(r)
					right(t, "Begin", first.Begin(id, j))
					for stop := range all {
						l := first.Frames()
						second := s.machine(r)
						right(t, "Load", second.Load(l))
						sameFrames(t, "behind Load", second.Frames(), l)
						rest, err := second.Run(math.MaxInt)
						if err != nil || rest < all-stop || stop+rest > plainSteps(level, j) {
							t.Fatalf("stopped behind %d of %d steps: %d, %v", stop, all, rest, err)
						}
						ended(t, "stopped, and loaded", second, out)
						idle(t, "stopped, and loaded", second)
						runs(t, first, 1, 1)
					}
					// The one that told went on as if nothing had been.
					ended(t, "the first one", first, out)
				}
			}
		}
	}
}

// stopped goes over a square beside the model, where each step that a closure names is another machine's, and is how many steps there were.
func (s store) stopped(r rule.Rule, id, j int, stops func(n int) bool) int {
	s.t.Helper()
	m, w, n := s.machine(r), newModel(r, nil), -1
	w.told = func() {
		s.t.Helper()
		if n++; n > 0 {
			runs(s.t, m, 1, 1)
		}
		if len(w.stack) > 0 && stops(n) {
			l := m.Frames()
			m = s.machine(r)
			right(s.t, "Load", m.Load(l))
			clear(w.known)
		}
		s.isStack("behind a stop", m.Frames(), w.stack)
	}
	right(s.t, "Begin", m.Begin(id, j))
	want := w.goes(s.sheet(id), j)
	idle(s.t, "behind stops", m)
	if out, ok := m.Out(); !ok || s.sheet(out) != want || out != s.grown(r, id, j) {
		s.t.Fatalf("Out behind stops: %d, %v, and not the middle so far on", out, ok)
	}
	return n
}

// FR3: stopped behind some steps, and loaded by another machine each time, each step is the one that the model does, which remembers nothing then; where it stops behind each of them nothing comes at once but middles.
func TestStopOften(t *testing.T) {
	c := chance.Chance(19)
	for _, r := range someLaws(&c) {
		for level := 4; level <= 6; level++ {
			for i, p := range someSheets(&c, 1<<level) {
				if i%2 == 0 && level == 6 {
					continue
				}
				s := storeOf(t, 65536)
				id := s.lay(p)
				for j := range level - 1 {
					s.stopped(r, id, j, func(int) bool { return c.Below(5) == 0 })
					if n := s.stopped(r, id, j, func(int) bool { return true }); n != plainSteps(level, j) {
						t.Fatalf("stopped behind each step of level %d by %d: %d steps, want %d", level, j, n, plainSteps(level, j))
					}
				}
			}
		}
	}
}

// FR3: one machine loads what it told itself ahead of something else: it goes on, and what it remembers comes at once.
func TestLoadedAgain(t *testing.T) {
	c := chance.Chance(20)
	s := storeOf(t, 65536)
	id := s.lay(sheetOf(64, func(int, int) bool { return c.Below(2) == 0 }))
	all, out := s.states(id, 4), s.grown(life, id, 4)
	m := s.machine(life)
	right(t, "Begin", m.Begin(id, 4))
	runs(t, m, math.MaxInt, len(all))
	for stop, l := range all {
		right(t, "Load", m.Load(l))
		// All that stands has its parts at once, and ends.
		want := 0
		for _, f := range l {
			want += 1 + partsOf(must(t)(s.Level(f.ID))) - f.Step
		}
		want -= len(l) - 1 // a part that was begun comes as a frame ends
		if runs(t, m, math.MaxInt, want); want > len(all)-stop {
			t.Fatalf("loaded again behind %d of %d steps: %d more", stop, len(all), want)
		}
		ended(t, "loaded again", m, out)
	}
}

// FR1, FR3: what came of a frame that was loaded is remembered too.
func TestLoadedKnown(t *testing.T) {
	c := chance.Chance(21)
	s := storeOf(t, 65536)
	id := s.lay(sheetOf(32, func(int, int) bool { return c.Below(2) == 0 }))
	for stop, l := range s.states(id, 3) {
		m := s.machine(life)
		right(t, "Load", m.Load(l))
		runs(t, m, math.MaxInt, 27-stop)
		for i := len(l) - 1; i >= 0; i-- {
			wide := s.lay(s.sheet(l[i].ID).cut(0, 0, 2*s.sheet(l[i].ID).width))
			right(t, "Begin", m.Begin(wide, l[i].J+1))
			runs(t, m, 1, 1)
			if f := m.Frames(); len(f) != 1 || f[0].Step != 1 {
				t.Fatalf("what came of a frame that was loaded, as a part: %+v", f)
			}
			_, err := m.Run(math.MaxInt)
			right(t, "Run", err)
		}
	}
}

// way is some cells, and the rule by which they go on.
type way struct {
	what string
	r    rule.Rule
	l    []api.Cell
}

// farWays are such of a square of a level, that are not too much to tell of, however far.
func farWays(level int) []way {
	half := 1 << (level - 1)
	return []way{
		{"a glider", life, moved(glider, half)},
		{"two gliders", life, append(moved(glider, half), moved(glider, half/2)...)},
		{"odd numbers", parity, moved(glider, half)},
		{"all are born of one", filling, []api.Cell{{X: half, Y: half}}},
	}
}

// FR3: squares of each level up to 40, as far on as they go, in parts, and stopped some times: more often would be for ever, as a machine that remembers nothing does each part of each part anew.
func TestFar(t *testing.T) {
	c := chance.Chance(22)
	for level := 7; level <= 40; level++ {
		for _, k := range farWays(level) {
			s := storeOf(t, 65536)
			id := s.put(level, k.l)
			for _, j := range []int{0, 1, level / 2, level - 3, level - 2} {
				out := s.grown(k.r, id, j)
				m := s.machine(k.r)
				right(t, "Begin", m.Begin(id, j))
				for part := 0; len(m.Frames()) > 0; part++ {
					_, err := m.Run(c.Below(500))
					right(t, "Run", err)
					if l := m.Frames(); len(l) > 0 && (part == 1 || part == 4) {
						m = s.machine(k.r)
						right(t, "Load", m.Load(l))
					}
				}
				ended(t, k.what, m, out)
			}
		}
	}
}
