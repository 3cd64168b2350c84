package frames

import (
	"math"
	"slices"
	"testing"

	"quilt/chance"
)

// spoil writes over all that frames have, and over the room behind it.
func spoil(l []Frame) {
	l = l[:cap(l)]
	for i := range l {
		got := l[i].Got[:cap(l[i].Got)]
		for n := range got {
			got[n] = -5
		}
		_ = append(l[i].Got, -6, -7)
		l[i] = Frame{-1, -2, -3, []int{-4}}
	}
}

// FR2: frames that are told, and then written over, change nothing of the machine, nor of others that were told; behind each step.
func TestToldWrittenOver(t *testing.T) {
	c := chance.Chance(23)
	s := storeOf(t, 65536)
	id := s.lay(sheetOf(64, func(int, int) bool { return c.Below(3) == 0 }))
	for j := range 5 {
		out := s.grown(life, id, j)
		m := s.machine(life)
		right(t, "Begin", m.Begin(id, j))
		for _, want := range s.states(id, j) {
			first, second := m.Frames(), m.Frames()
			spoil(first)
			sameFrames(t, "told ahead of what was written over", second, want)
			sameFrames(t, "told behind what was written over", m.Frames(), want)
			for i := range second {
				// One list of an answer, and then the others.
				_ = append(second[i].Got, -1, -2, -3)
				second[i].Got = append(second[i].Got[:0], slices.Repeat([]int{-1}, len(want[i].Got))...)
				sameFrames(t, "the others of one answer", second[i+1:], want[i+1:])
			}
			runs(t, m, 1, 1)
			sameFrames(t, "told ahead of a step", m.Frames(), deep(m.Frames()))
		}
		ended(t, "behind what was written over", m, out)
	}
}

// FR2: what is told stays as it was told, whatever the machine does then.
func TestToldStays(t *testing.T) {
	c := chance.Chance(24)
	s := storeOf(t, 65536)
	id := s.lay(sheetOf(32, func(int, int) bool { return c.Below(3) == 0 }))
	m := s.machine(life)
	right(t, "Begin", m.Begin(id, 3))
	var all, was [][]Frame
	for len(m.Frames()) > 0 {
		l := m.Frames()
		all, was = append(all, l), append(was, deep(l))
		runs(t, m, 1, 1)
	}
	right(t, "Begin", m.Begin(id, 2))
	runs(t, m, 5, 5)
	for i := range all {
		sameFrames(t, "what was told", all[i], was[i])
	}
}

// roomy are such frames in lists with room behind what they have.
func roomy(l []Frame) []Frame {
	r := append(make([]Frame, 0, len(l)+3), l...)
	for i := range r {
		r[i].Got = append(make([]int, 0, len(r[i].Got)+14), r[i].Got...)
	}
	return r
}

// FR2: frames that are loaded are not changed, nor what lies behind them, and where they are written over it is not felt; two machines load one list.
func TestLoadedWrittenOver(t *testing.T) {
	c := chance.Chance(25)
	s := storeOf(t, 65536)
	id := s.lay(sheetOf(64, func(int, int) bool { return c.Below(3) == 0 }))
	for j := range 5 {
		out := s.grown(life, id, j)
		for _, want := range s.states(id, j) {
			l := roomy(want)
			first, second := s.machine(life), s.machine(life)
			right(t, "Load", first.Load(l))
			right(t, "Load of the same", second.Load(l))
			if n, err := first.Run(math.MaxInt); n < 1 || err != nil {
				t.Fatalf("Run: %d, %v", n, err)
			}
			sameFrames(t, "what was handed in", l, want)
			for i := range l {
				if behind := l[i].Got[len(l[i].Got):cap(l[i].Got)]; slices.Max(behind) != 0 || slices.Min(behind) != 0 {
					t.Fatalf("behind what was handed in: %v", behind)
				}
			}
			for _, f := range l[len(l):cap(l)] {
				if f.ID != 0 || f.J != 0 || f.Step != 0 || f.Got != nil {
					t.Fatalf("behind what was handed in: %+v", f)
				}
			}
			sameFrames(t, "of the other one", second.Frames(), want)
			spoil(l)
			sameFrames(t, "behind what was written over", second.Frames(), want)
			if n, err := second.Run(math.MaxInt); n < 1 || err != nil {
				t.Fatalf("Run: %d, %v", n, err)
			}
			ended(t, "one", first, out)
			ended(t, "and the other", second, out)
		}
	}
}
