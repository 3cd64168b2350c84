package hash

import (
	"math"
	"slices"
	"testing"

	"quilt/chance"
)

func numbers(c *chance.Chance, n int) []uint64 {
	l := make([]uint64, n)
	for i := range l {
		l[i] = number(c)
	}
	return l
}

// HA2: of nothing, nil and the empty list alike.
func TestOfNothing(t *testing.T) {
	for _, got := range []uint64{Of(), Of(nil...), Of([]uint64{}...), Of(make([]uint64, 0, 9)...), Of([]uint64{1, 2, 3}[:0]...)} {
		if got != 0x9e3779b97f4a7c15 {
			t.Errorf("Of of nothing: %x", got)
		}
	}
}

// HA2: keys that follow from the numbers of TestMixKnown, as a number is turned in ahead of what is added, and all of it is mixed.
func TestOfKnown(t *testing.T) {
	known := []struct {
		l    []uint64
		want uint64
	}{
		{[]uint64{0x9e3779b97f4a7c15}, 0xe220a8397b1dcdaf},
		{[]uint64{0}, 0x6e789e6aa1b965f4},
		{[]uint64{0x9e3779b97f4a7c15, 0xe220a8397b1dcdaf}, 0xe220a8397b1dcdaf},
		{[]uint64{0x9e3779b97f4a7c15, 0xe220a8397b1dcdaf ^ 0x9e3779b97f4a7c15}, 0x6e789e6aa1b965f4},
		{[]uint64{0, 0x6e789e6aa1b965f4}, 0xe220a8397b1dcdaf},
	}
	for _, k := range known {
		if got := Of(k.l...); got != k.want {
			t.Errorf("Of(%x): %x, want %x", k.l, got, k.want)
		}
	}
}

// HA2: one number, at the edges and of many, as the chapter reckons.
func TestOfOne(t *testing.T) {
	for _, n := range many(1, 5000) {
		if got, want := Of(n), keyed([]uint64{n}); got != want {
			t.Fatalf("Of(%x): %x, want %x", n, got, want)
		}
	}
}

// HA2: several numbers, one by one or as a slice, as the chapter reckons.
func TestOfSeveral(t *testing.T) {
	for _, a := range edges() {
		if got, want := Of(a, 0, math.MaxUint64, a), keyed([]uint64{a, 0, math.MaxUint64, a}); got != want {
			t.Fatalf("Of(%x, 0, %x, %[1]x): %x, want %x", a, uint64(math.MaxUint64), got, want)
		}
	}
	c := chance.Chance(2)
	for n := range 200 {
		l := numbers(&c, n)
		want := keyed(l)
		if got := Of(l...); got != want {
			t.Fatalf("Of of %d numbers: %x, want %x", n, got, want)
		}
		if got := Of(append(slices.Clone(l), 0)...); got == want {
			t.Fatalf("Of of %d numbers, and 0: as without it", n)
		}
	}
	l := numbers(&c, 5)
	if Of(l[0], l[1], l[2], l[3], l[4]) != Of(l...) {
		t.Errorf("Of(%x): not as of the slice", l)
	}
}

// HA2: noughts count, how many there are too, and so does the order.
func TestOfPlaces(t *testing.T) {
	seen := map[uint64]int{}
	for n := range 2000 {
		key := Of(make([]uint64, n)...)
		if other, ok := seen[key]; ok {
			t.Fatalf("Of of %d noughts is that of %d", n, other)
		}
		seen[key] = n
	}
	if Of(1, 2) == Of(2, 1) || Of(0, 1) == Of(1, 0) || Of(0, 1) == Of(1) || Of(1, 0) == Of(1) {
		t.Error("Of of a few numbers, without their order")
	}
}

// HA2, HA3: a list's key tells what was behind all but the last number, so no step loses anything.
func TestOfStepsBack(t *testing.T) {
	c := chance.Chance(3)
	for n := 1; n < 60; n++ {
		l := numbers(&c, n)
		before := (Back(Of(l...)) - 0x9e3779b97f4a7c15) ^ l[n-1]
		if want := Of(l[:n-1]...); before != want {
			t.Fatalf("behind %d numbers, and one taken off: %x, want %x", n, before, want)
		}
	}
}

// HA3: lists that are not the same at just one place have keys that are not the same: each bit of each place, and others by chance.
func TestOfOnePlace(t *testing.T) {
	c := chance.Chance(4)
	for n := 1; n < 12; n++ {
		ones := slices.Repeat([]uint64{math.MaxUint64}, n)
		for _, l := range [][]uint64{make([]uint64, n), ones, numbers(&c, n)} {
			key := Of(l...)
			for i := range l {
				apart(t, l, key, i, edges())
				apart(t, l, key, i, numbers(&c, 200))
			}
		}
	}
}

// apart holds l's key against those of l with others at one place.
func apart(t *testing.T, l []uint64, key uint64, place int, others []uint64) {
	t.Helper()
	for _, x := range others {
		other := slices.Clone(l)
		other[place] ^= x
		if got := Of(other...); (got == key) != (x == 0) {
			t.Fatalf("Of(%x): %x, and Of(%x): %x", l, key, other, got)
		}
	}
}

// HA3: no two of many lists that are not the same at one place, wherever it stands, have one key.
func TestOfAllApart(t *testing.T) {
	for _, around := range [][2][]uint64{{nil, nil}, {{7, 0}, nil}, {nil, {0, 7}}, {{1, 2}, {3}}} {
		seen := map[uint64]int{}
		for x := range 1 << 14 {
			key := Of(slices.Concat(around[0], []uint64{uint64(x)}, around[1])...)
			if other, ok := seen[key]; ok {
				t.Fatalf("%d and %d, between %x: one key %x", other, x, around, key)
			}
			seen[key] = x
		}
	}
}

// Rule 3: a list that is handed in stays as it is, its spare room too, and is not kept.
func TestOfLeavesList(t *testing.T) {
	c := chance.Chance(5)
	for _, n := range []int{0, 1, 2, 5, 100} {
		whole := numbers(&c, n+20)
		before := slices.Clone(whole)
		key := Of(whole[:n]...)
		if !slices.Equal(whole, before) {
			t.Fatalf("Of changed its list of %d", n)
		}
		for i := range whole {
			whole[i] = ^whole[i]
		}
		if got := Of(before[:n]...); got != key {
			t.Fatalf("Of of a list of %d, again: %x, want %x", n, got, key)
		}
		if n > 0 && Of(whole[:n]...) == key {
			t.Fatalf("Of of another list of %d: that of the first", n)
		}
	}
}

// Rule 4: what is answered hangs on the arguments alone, not on what was asked before.
func TestAnswersAlone(t *testing.T) {
	l := many(6, 100)
	type answers struct {
		mix, back, of uint64
		front         int
	}
	ask := func(x uint64) answers { return answers{Mix(x), Back(x), Of(x, 1), Front(x, 12)} }
	first := map[uint64]answers{}
	for _, x := range l {
		first[x] = ask(x)
	}
	slices.Reverse(l)
	for _, x := range l {
		if got := ask(x); got != first[x] {
			t.Fatalf("of %x, again: %x, want %x", x, got, first[x])
		}
	}
}
