package cells

import (
	"math"
	"slices"
	"testing"

	"quilt/api"
	"quilt/chance"
	"quilt/rule"
)

// CE2: what is known at sight, by B3/S23: a block, a row of three, a glider, a corner, and cells alone; sorted, wherever they lie.
func TestStepKnown(t *testing.T) {
	for _, k := range []struct {
		l    []api.Cell
		n    int
		want []api.Cell
	}{
		{nil, 0, nil},
		{nil, 1, nil},
		{[]api.Cell{}, 64, nil},
		{one, 0, one},
		{one, 1, nil},
		{one, 64, nil},
		{at(0, 0, 1, 0), 1, nil},
		{block, 1, block},
		{block, 64, block},
		{row, 0, row},
		{row, 1, column},
		{row, 2, row},
		{row, 63, column},
		{row, 64, row},
		{corner, 1, block},
		{corner, 64, block},
		{glider, 1, at(0, 1, 2, 1, 1, 2, 2, 2, 1, 3)},
		{glider, 2, at(2, 1, 0, 2, 2, 2, 1, 3, 2, 3)},
		{glider, 3, at(1, 1, 2, 2, 3, 2, 1, 3, 2, 3)},
		{glider, 4, moved(glider, 1, 1)},
		{glider, 64, moved(glider, 16, 16)},
	} {
		for _, far := range at(0, 0, 5, 9, -40, 3, 1<<37, -1<<37, -1<<38+20, 1<<38-40) {
			got, err := Step(life, moved(k.l, far.X, far.Y), k.n)
			answers(t, "Step", got, err, moved(k.want, far.X, far.Y))
		}
	}
	got, err := Step(life, at(0, 0, 1, 0, 2, 0), 1)
	answers(t, "the chapter's example", got, err, at(1, -1, 1, 0, 1, 1))
}

// CE2: each of the 512 neighbourhoods of a cell, whose bits also stand for what lies about; by some rules, and by any.
func TestStepNeighbourhoods(t *testing.T) {
	c := chance.Chance(8)
	for nine := range 512 {
		var l []api.Cell
		for i := range 9 {
			if nine>>i&1 == 1 {
				l = append(l, api.Cell{X: i%3 - 1, Y: i/3 - 1})
			}
		}
		for _, r := range append([]rule.Rule{anyRule(&c), anyRule(&c)}, someLaws...) {
			stepIs(t, r, shuffled(&c, l), 1)
		}
	}
}

// situations are cells that live, and such that don't, with each number of neighbours, far from each other: the middles of which those with an even number live.
func situations() ([]api.Cell, []api.Cell) {
	var l, middles []api.Cell
	about := at(-1, -1, 1, 1, 0, -1, 0, 1, 1, -1, -1, 1, -1, 0, 1, 0)
	for n := range 18 {
		middle := api.Cell{X: n * 10, Y: n % 5}
		middles = append(middles, middle)
		l = append(l, moved(about[:n/2], middle.X, middle.Y)...)
		if n%2 == 0 {
			l = append(l, middle)
		}
	}
	return l, middles
}

// CE2: many rules, each asked for a cell that lives, and one that does not, with each number of neighbours.
func TestStepRules(t *testing.T) {
	l, middles := situations()
	for i := 0; i < 1<<17; i += 101 {
		r := rule.Rule{Born: uint16(i>>9) * 2, Live: uint16(i & 511)}
		got := steps(t, r, l, 1)
		for n, middle := range middles {
			part := r.Born
			if n%2 == 0 {
				part = r.Live
			}
			if slices.Contains(got, middle) != (part>>(n/2)&1 == 1) {
				t.Fatalf("Step by %x: a cell that lives (%v) with %d neighbours becomes another", r, n%2 == 0, n/2)
			}
		}
	}
	for bit := range 9 {
		stepIs(t, rule.Rule{Live: 1 << bit}, l, 1)
		if bit > 0 {
			stepIs(t, rule.Rule{Born: 1 << bit}, l, 1)
		}
	}
}

// CE2: any cells near each other, by any rule, by some generations.
func TestStepAny(t *testing.T) {
	c := chance.Chance(9)
	for i := range 400 {
		r := anyRule(&c)
		if i%3 == 0 {
			r = someLaws[i/3%len(someLaws)]
		}
		stepIs(t, r, moved(heap(&c, 1+c.Below(10)), c.Below(30)-15, c.Below(30)-15), c.Below(9))
	}
	for range 10 {
		stepIs(t, life, heap(&c, 12), 40+c.Below(25))
	}
	stepIs(t, life, manyGen, 64)
}

// CE2: the list's order, and cells that are there twice, do not matter.
func TestStepEveryOrder(t *testing.T) {
	c := chance.Chance(10)
	l := joined(glider, glider[:1], glider[3:])
	for n := range 5 {
		want := steps(t, life, glider, n)
		for range 50 {
			got, err := Step(life, shuffled(&c, l), n)
			answers(t, "Step", got, err, want)
		}
	}
}

// CE2: by rules by which many are born, none lives on, none is born, and all live on.
func TestStepManyNone(t *testing.T) {
	answers(t, "Step", steps(t, nothing, wall(4096), 0), nil, wall(4096))
	answers(t, "Step", steps(t, nothing, wall(4096), 1), nil, nil)
	answers(t, "Step", steps(t, nothing, glider, 64), nil, nil)
	answers(t, "Step", steps(t, staying, wall(4096), 64), nil, wall(4096))
	answers(t, "Step", steps(t, staying, one, 64), nil, one)
	answers(t, "Step", steps(t, flooding, one, 1), nil, at(-1, -1, 0, -1, 1, -1, -1, 0, 1, 0, -1, 1, 0, 1, 1, 1))
	// Of one cell, by a rule by which all about are born and all live on, a square comes, two wider each time: of 63 by 63 at most.
	for _, n := range []int{0, 1, 2, 3, 10, 30, 31, 32, 33, 64} {
		got, err := Step(filling, at(5, -5), n)
		if n > 31 {
			fails(t, "Step to a square of 65", got, err, api.ErrLimit)
			continue
		}
		if err != nil || len(got) != (2*n+1)*(2*n+1) {
			t.Fatalf("a square, %d generations on: %d cells, %v", n, len(got), err)
		}
		boxIs(t, got, 5-n, -5-n, 5+n, -5+n)
	}
	for n := range 8 {
		stepIs(t, flooding, glider, n)
		stepIs(t, flooding, row, n)
	}
}

// CE2: numbers of generations that may be, and others.
func TestStepNumbers(t *testing.T) {
	for n := range 65 {
		if got := steps(t, life, glider, n); len(got) != 5 {
			t.Errorf("a glider, %d generations on: %v", n, got)
		}
	}
	for _, n := range noNumbers {
		for _, r := range someLaws {
			for _, l := range [][]api.Cell{nil, one, glider, wall(4097), farCells()[:1], at(1<<38, 1<<38)} {
				got, err := Step(r, l, n)
				fails(t, "Step", got, err, api.ErrArg)
			}
		}
	}
}

// noNumbers are no numbers of generations; cut to fewer bits some of them were.
var noNumbers = []int{-1, 65, -2, -63, -64, -65, 66, 127, 128, 256, 256 + 1, 1 << 16, 1 << 32, 1<<32 + 1, math.MaxInt, math.MinInt, math.MinInt + 1, math.MinInt + 64}

// CE2: a rule that may not be is told first, whatever else is wrong.
func TestStepWrongRule(t *testing.T) {
	for _, r := range wrongLaws() {
		for _, n := range []int{0, 1, 64, -1, 65, math.MinInt} {
			for _, l := range [][]api.Cell{nil, one, wall(4097), farCells()[:1], at(1<<38, 1<<38)} {
				got, err := Step(r, l, n)
				fails(t, "Step", got, err, api.ErrRule)
			}
		}
	}
}

// CE2: Sorted's errors, in its order, and ahead of what comes of the cells; by no generations, too.
func TestStepCells(t *testing.T) {
	for _, n := range []int{0, 1, 2, 64} {
		for _, r := range someLaws {
			for _, l := range [][]api.Cell{wall(4097), slices.Repeat(one, 4097), append(wall(4096), farCells()[0]), joined(wall(4096), at(1<<38, 0))} {
				got, err := Step(r, l, n)
				fails(t, "Step of too many", got, err, api.ErrLong)
			}
			for _, far := range farCells() {
				got, err := Step(r, []api.Cell{far}, n)
				fails(t, "Step of one beyond", got, err, api.ErrRange)
				got, err = Step(r, append(at(1<<38, 0, 1<<38, 1, 1<<38, 2), far), n)
				fails(t, "Step with one beyond", got, err, api.ErrRange)
			}
		}
	}
}

// CE2: just as many cells as there may be, and one more, in the first generation on.
func TestStepMost(t *testing.T) {
	heaps := [][]api.Cell{block, row, corner}
	most := apart(heaps, 1023, 0, 1)
	if len(most) != 4095 || len(steps(t, life, most, 1)) != 4096 || len(steps(t, life, most, 64)) != 4096 {
		t.Error("4,095 cells that come to be 4,096")
	}
	stepIs(t, life, most, 3)
	more := apart(heaps, 1021, 3, 1)
	if len(more) != 4096 {
		t.Errorf("%d cells", len(more))
	}
	answers(t, "Step", steps(t, life, more, 0), nil, laid(more, 0).cells())
	for _, n := range []int{1, 2, 3, 64} {
		got, err := Step(life, more, n)
		fails(t, "Step to 4,097", got, err, api.ErrLimit)
	}
	blocks := apart(heaps, 1024)
	answers(t, "Step", steps(t, life, blocks, 64), nil, laid(blocks, 0).cells())
}

// CE2: more cells than there may be in a generation between, though fewer at the end.
func TestStepMoreBetween(t *testing.T) {
	alone := apart([][]api.Cell{one}, 512)
	all := generations(parity, alone, 4)
	if len(all[1]) != 4096 || len(all[2]) != 4096 || len(all[3]) <= 4096 || len(all[4]) != 4096 {
		t.Fatal("512 cells go on otherwise")
	}
	some := apart([][]api.Cell{one}, 180)
	between := generations(parity, some, 4)
	if len(between[3]) <= 4096 || len(between[4]) != 180*8 {
		t.Fatalf("180 cells go on otherwise: %d, %d", len(between[3]), len(between[4]))
	}
	for n := range 7 {
		stepIs(t, parity, alone, n)
		stepIs(t, parity, some, n)
	}
	got, err := Step(parity, some, 4)
	fails(t, "Step over too many", got, err, api.ErrLimit)
	// Each but the last lives for one generation.
	fading := rule.Rule{Born: 2, Live: 1}
	for _, count := range []int{455, 456} {
		l := apart([][]api.Cell{one}, count)
		stepIs(t, fading, l, 1)
		stepIs(t, fading, l, 2)
	}
}

// sides are places at each side and corner of where cells may be.
func sides() []api.Cell {
	const edge = 1 << 38
	return at(-edge, -edge, 0, -edge, edge, -edge, -edge, 0, edge, 0, -edge, edge, 0, edge, edge, edge)
}

// CE2: at each side and corner: what stays may lie there; one that is born beyond may not, be it gone again in the end.
func TestStepEdge(t *testing.T) {
	for _, side := range sides() {
		in := api.Cell{X: -sign(side.X), Y: -sign(side.Y)}
		inner := moved(block, side.X+min(in.X, 0), side.Y+min(in.Y, 0))
		answers(t, "Step", steps(t, life, inner, 64), nil, inner)
		answers(t, "Step", steps(t, staying, []api.Cell{side}, 64), nil, []api.Cell{side})
		answers(t, "Step", steps(t, nothing, []api.Cell{side}, 64), nil, nil)
		for n := range 4 {
			stepIs(t, spread, []api.Cell{side}, n)
			stepIs(t, filling, moved([]api.Cell{side}, 2*in.X, 2*in.Y), n)
		}
		got, err := Step(filling, moved([]api.Cell{side}, 2*in.X, 2*in.Y), 3)
		fails(t, "Step over a side", got, err, api.ErrLimit)
	}
	for _, k := range []struct{ l, beside []api.Cell }{
		{moved(row, 0, 1<<38), moved(row, 0, 1<<38-1)},
		{moved(row, 0, -1<<38), moved(row, 0, -1<<38+1)},
		{moved(column, 1<<38, 0), moved(column, 1<<38-1, 0)},
		{moved(column, -1<<38, 0), moved(column, -1<<38+1, 0)},
	} {
		for _, n := range []int{1, 2, 63, 64} {
			got, err := Step(life, k.l, n)
			fails(t, "Step over a side", got, err, api.ErrLimit)
			answers(t, "Step", steps(t, life, k.beside, n), nil, generations(life, k.beside, n%2)[n%2])
		}
		answers(t, "Step", steps(t, life, k.l, 0), nil, k.l)
		stepIs(t, life, k.l, 1)
		stepIs(t, life, k.beside, 1)
	}
}

func sign(x int) int { return min(max(x, -1), 1) }

// CE2: any cells near each corner, by any rule.
func TestStepNearEdge(t *testing.T) {
	c := chance.Chance(11)
	passed := 0
	for i := range 600 {
		r := anyRule(&c)
		if i%3 == 0 {
			r = someLaws[i/3%len(someLaws)]
		}
		side := sides()[i%8]
		far := 4 + c.Below(5)
		l := moved(heap(&c, 6), side.X-sign(side.X)*far-3, side.Y-sign(side.Y)*far-3)
		n := c.Below(9)
		stepIs(t, r, l, n)
		if slices.ContainsFunc(generations(r, l, n), isTooMuch) {
			passed++
		}
	}
	if passed < 100 || passed > 500 {
		t.Errorf("%d of 600 come to be beyond", passed)
	}
}

// CE2: too many, and one beyond, in the same generation, or in two.
func TestStepBoth(t *testing.T) {
	for _, l := range [][]api.Cell{
		joined(wall(4000), at(1<<38, 1<<38)),
		joined(wall(500), at(0, -1<<38)),
		joined(wall(1), at(-1<<38+40, 0)),
	} {
		for range 20 {
			got, err := Step(filling, l, 64)
			fails(t, "Step", got, err, api.ErrLimit)
		}
	}
}

// Rule 4: the same tells the same again, in the same order, whatever was asked in between.
func TestSameAgain(t *testing.T) {
	want := generations(life, manyGen, 30)[30]
	for range 30 {
		got, err := Step(life, manyGen, 30)
		answers(t, "Step", got, err, want)
		got, err = Step(life, wall(4097), 1)
		fails(t, "Step", got, err, api.ErrLong)
		got, err = Step(flooding, at(1<<38, 0), 1)
		fails(t, "Step", got, err, api.ErrLimit)
		got, err = Sorted(manyGen)
		answers(t, "Sorted", got, err, laid(manyGen, 0).cells())
	}
}
