package cells

import (
	"maps"
	"slices"

	"quilt/api"
	"quilt/rule"
)

const (
	// mostSteps are the generations that one call goes on at most.
	mostSteps = 64

	// self is what a cell that lives counts for itself: more than all its neighbours together, so that one number tells both.
	self = 9
)

// Step are the cells that live so many generations on.
func Step(r rule.Rule, l []api.Cell, n int) ([]api.Cell, error) {
	if err := rule.Check(r); err != nil {
		return nil, err
	}
	if n < 0 || n > mostSteps {
		return nil, api.ErrArg
	}
	living, err := Sorted(l)
	if err != nil {
		return nil, err
	}
	counts := map[api.Cell]int{} // one for all generations, so that it need not grow anew in each
	for range n {
		count(counts, living)
		if living, err = next(r, counts); err != nil {
			return nil, err
		}
	}
	slices.SortFunc(living, compare)
	return living, nil
}

// count counts anew, at each place about cells that live, how many neighbours of it do, and the cell itself.
func count(counts map[api.Cell]int, living []api.Cell) {
	clear(counts)
	for _, c := range living {
		counts[c] += self
		for y := c.Y - 1; y <= c.Y+1; y++ {
			for x := c.X - 1; x <= c.X+1; x++ {
				if at := (api.Cell{X: x, Y: y}); at != c {
					counts[at]++
				}
			}
		}
	}
}

// next are the cells that live one generation on, in any order. Where nothing was counted none does: nothing is born of nothing.
func next(r rule.Rule, counts map[api.Cell]int) ([]api.Cell, error) {
	var on []api.Cell
	for c := range maps.Keys(counts) {
		n := counts[c]
		lives, err := rule.Next(r, n >= self, n%self)
		if err != nil {
			return nil, err
		}
		if !lives {
			continue
		}
		if len(on) == api.MaxCells || isBeyond(c) {
			return nil, api.ErrLimit
		}
		on = append(on, c)
	}
	return on, nil
}
