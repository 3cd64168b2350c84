package cells

import (
	"slices"
	"testing"

	"quilt/api"
	"quilt/chance"
	"quilt/rule"
)

// lawOf is any rule, or each third time one of some.
func lawOf(c *chance.Chance, i int) rule.Rule {
	if i%3 == 0 {
		return someLaws[i/3%len(someLaws)]
	}
	return anyRule(c)
}

// inParts is Step of one part's generations, and of the next one's.
func inParts(r rule.Rule, l []api.Cell, parts ...int) ([]api.Cell, error) {
	for _, n := range parts {
		var err error
		if l, err = Step(r, l, n); err != nil {
			return nil, err
		}
	}
	return l, nil
}

// CE3: Step of one and then more generations is that of all, and has its errors.
func TestStepInParts(t *testing.T) {
	c := chance.Chance(12)
	for i := range 150 {
		r := lawOf(&c, i)
		l := heap(&c, 1+c.Below(9))
		n := c.Below(12)
		want, wrong := Step(r, l, n)
		for first := range n + 1 {
			got, err := inParts(r, l, first, n-first)
			if wrong != nil {
				fails(t, "Step in parts", got, err, api.ErrLimit)
			} else {
				answers(t, "Step in parts", got, err, want)
			}
		}
		ones, err := inParts(r, l, append(slices.Repeat([]int{1}, n), 0)...)
		if wrong != nil {
			fails(t, "Step one by one", ones, err, api.ErrLimit)
		} else {
			answers(t, "Step one by one", ones, err, want)
		}
	}
}

// CE3: in parts, up to 64 generations, and further than one call goes.
func TestStepFurther(t *testing.T) {
	want := generations(life, manyGen, 150)
	for _, parts := range [][]int{{64}, {1, 63}, {63, 1}, {0, 64, 0}, {32, 32}, {20, 30, 14}} {
		got, err := inParts(life, manyGen, parts...)
		answers(t, "Step in parts", got, err, want[64])
	}
	for _, parts := range [][]int{{64, 64, 22}, {50, 50, 50}, {22, 64, 64}, {64, 1, 64, 21}} {
		got, err := inParts(life, manyGen, parts...)
		answers(t, "Step in parts", got, err, want[150])
	}
}

// CE3: too many in a generation between are told in parts as they are at once.
func TestStepLimitInParts(t *testing.T) {
	l := apart([][]api.Cell{one}, 180)
	for _, parts := range [][]int{{4}, {1, 3}, {2, 2}, {3, 1}, {1, 1, 1, 1}} {
		got, err := inParts(parity, l, parts...)
		fails(t, "Step in parts over too many", got, err, api.ErrLimit)
	}
	over := moved(row, 5, 1<<38)
	for _, parts := range [][]int{{2}, {1, 1}, {0, 2}} {
		got, err := inParts(life, over, parts...)
		fails(t, "Step in parts over a side", got, err, api.ErrLimit)
	}
}

// CE3: moved cells go on as they do, moved; near the sides, too.
func TestStepMoved(t *testing.T) {
	c := chance.Chance(13)
	for i := range 200 {
		r := lawOf(&c, i)
		l := heap(&c, 8)
		n := c.Below(9)
		want := steps(t, r, l, n)
		for _, far := range at(1, 0, 0, -1, -17, 33, 1<<32, -1<<32, 1<<38-16, 5, -5, 8-1<<38, 8-1<<38, 1<<38-16, 1<<38-16, 1<<38-16) {
			there, err := Shift(l, far.X, far.Y)
			if err != nil {
				t.Fatal(err)
			}
			on, err := Step(r, there, n)
			answers(t, "Step of moved cells", on, err, moved(want, far.X, far.Y))
			back, err := Shift(on, -far.X, -far.Y)
			answers(t, "and moved back", back, err, want)
		}
	}
}

// CE3: two heaps far from each other go on as each alone does.
func TestStepTwoHeaps(t *testing.T) {
	c := chance.Chance(14)
	for i := range 100 {
		r := lawOf(&c, i)
		first, second := heap(&c, 7), heap(&c, 7)
		n := c.Below(9)
		for _, far := range at(24, 0, 0, 24, -24, 24, 1<<32, 0, 0, 1<<32, 1<<37, -1<<37, 1<<38-16, 1<<38-16, 9-1<<38, 3) {
			other := moved(second, far.X, far.Y)
			want, err := Sorted(joined(steps(t, r, first, n), steps(t, r, other, n)))
			if err != nil {
				t.Fatal(err)
			}
			got, err := Step(r, shuffled(&c, joined(first, other)), n)
			answers(t, "Step of two heaps", got, err, want)
		}
	}
}

// CE3: heaps that lie just so near that one feels the other do not go on alone.
func TestStepTwoNear(t *testing.T) {
	for gap := range 12 {
		stepIs(t, filling, at(0, 0, 1+gap, 0), 4)
		stepIs(t, spread, at(0, 0, 1+gap, gap), 5)
		stepIs(t, life, joined(glider, moved(glider, 3+gap, 3+gap)), 30)
	}
}
