package cells

import (
	"slices"
	"testing"

	"quilt/api"
)

// spare is a list with spare room behind it, in which something stands.
func spare(l []api.Cell) []api.Cell {
	room := slices.Grow(slices.Clone(l), 20)
	for i := range room[:cap(room)] {
		if i >= len(l) {
			room[:cap(room)][i] = api.Cell{X: 77, Y: -77}
		}
	}
	return room
}

// spoil writes over a list, and its spare room.
func spoil(l []api.Cell) {
	l = l[:cap(l)]
	for i := range l {
		l[i] = api.Cell{X: -1, Y: -1}
	}
}

// calls are those that answer lists, each such that it answers one of the same list.
func calls() []func(l []api.Cell) ([]api.Cell, error) {
	return []func(l []api.Cell) ([]api.Cell, error){
		Sorted,
		func(l []api.Cell) ([]api.Cell, error) { return Shift(l, 0, 0) },
		func(l []api.Cell) ([]api.Cell, error) { return Shift(l, 5, -5) },
		func(l []api.Cell) ([]api.Cell, error) { return Step(life, l, 0) },
		func(l []api.Cell) ([]api.Cell, error) { return Step(staying, l, 1) },
		func(l []api.Cell) ([]api.Cell, error) { return Step(life, l, 4) },
	}
}

// lists are some that are sorted and some that are not, some with a cell twice; none, and one.
func lists() [][]api.Cell {
	return [][]api.Cell{nil, {}, one, glider, at(3, 3, 1, 1, 3, 3, 2, 1), at(2, 2, 2, 2), block, joined(block, block), wall(4096)}
}

// Rule 3: what is handed in is not changed, its spare room neither; and an answer that is written over is not felt in it.
func TestArgumentsStay(t *testing.T) {
	for _, l := range lists() {
		for _, call := range calls() {
			arg := spare(l)
			before := slices.Clone(arg[:cap(arg)])
			got, err := call(arg)
			if err != nil {
				t.Fatal(err)
			}
			spoil(got)
			if !slices.Equal(arg[:cap(arg)], before) {
				t.Fatalf("%v is changed", l)
			}
		}
		arg := spare(l)
		before := slices.Clone(arg[:cap(arg)])
		Has(arg, api.Cell{X: 1})
		Box(arg)
		if !slices.Equal(arg[:cap(arg)], before) {
			t.Fatalf("Has or Box changes %v", l)
		}
	}
}

// Rule 3: an argument that is handed in and found wrong is not changed.
func TestWrongArgumentsStay(t *testing.T) {
	for _, l := range [][]api.Cell{append(at(5, 5, 1, 1, 5, 5), farCells()[0]), slices.Repeat(at(9, 9, 1, 1), 3000), at(0, 1<<38, 2, 1<<38, 1, 1<<38, 1, 1<<38)} {
		for range 10 {
			arg := spare(l)
			before := slices.Clone(arg[:cap(arg)])
			Sorted(arg)
			Shift(arg, 1<<39, 0)
			Shift(arg, 0, 1)
			Step(life, arg, 2)
			Step(flooding, arg, 64)
			Step(life, arg, 65)
			if !slices.Equal(arg[:cap(arg)], before) {
				t.Fatalf("%v is changed", l)
			}
		}
	}
}

// Rule 3: no two answers share memory, and none is felt in one that is asked again; nor is an argument that is written over.
func TestAnswersApart(t *testing.T) {
	for _, l := range lists() {
		for _, call := range calls() {
			arg := spare(l)
			first, err := call(arg)
			if err != nil {
				t.Fatal(err)
			}
			want := slices.Clone(first)
			second, err := call(arg)
			answers(t, "asked again", second, err, want)
			spoil(second)
			if !slices.Equal(first, want) {
				t.Fatal("two answers share memory")
			}
			third, err := call(arg)
			answers(t, "behind an answer that was written over", third, err, want)
			spoil(arg)
			if !slices.Equal(first, want) || !slices.Equal(third, want) {
				t.Fatal("an answer shares memory with the argument")
			}
		}
	}
}
