package bucket

import (
	"cmp"
	"math"
	"slices"
	"testing"

	"quilt/chance"
)

// BU2: a key's values are ascending, in whatever order they were put; of other keys there are none among them.
func TestGet(t *testing.T) {
	values := []uint32{0, 1, 2, 9, 10, 255, 256, 1<<16 - 1, 1 << 16, 1<<31 - 1, 1 << 31, math.MaxUint32 - 1, math.MaxUint32}
	keys := []uint64{0, 1, 2, math.MaxInt64, 1 << 63, math.MaxUint64}
	var l []Pair
	for _, key := range keys {
		for _, v := range values {
			l = append(l, Pair{key, v})
		}
	}
	c := chance.Chance(1)
	backwards := slices.Clone(l)
	slices.Reverse(backwards)
	for _, order := range [][]Pair{l, backwards, shuffled(&c, l), shuffled(&c, l), shuffled(&c, l)} {
		for _, room := range []int{1, 7, 40} {
			x := madeOf(t, room, order)
			for _, key := range keys {
				gets(t, x, key, values...)
			}
			for _, key := range []uint64{3, 1 << 32, math.MaxUint64 - 1} {
				gets(t, x, key)
			}
		}
	}
}

// BU2: keys that lead to one bucket have each its own values.
func TestGetOneBucket(t *testing.T) {
	x := made(t, 3)
	for i := range uint64(300) {
		for v := range uint32(i % 4) {
			puts(t, x, Pair{keyOf(i), uint32(i) + 3 - v})
		}
	}
	for i := range uint64(400) {
		var want []uint32
		if n := uint32(i); i < 300 {
			want = []uint32{n + 1, n + 2, n + 3}[3-i%4:]
		}
		gets(t, x, keyOf(i), want...)
	}
}

// BU2: all pairs, by keys, the greatest ones behind, and by values of one key.
func TestAll(t *testing.T) {
	want := []Pair{
		{0, 0}, {0, 1}, {0, math.MaxUint32}, {1, 0}, {2, 1 << 31}, {255, 9}, {256, 8}, {1<<32 - 1, 7}, {1 << 32, 6},
		{math.MaxInt64, 5}, {1 << 63, 4}, {math.MaxUint64 - 1, 3}, {math.MaxUint64, 1<<31 - 1}, {math.MaxUint64, 1 << 31},
	}
	c := chance.Chance(2)
	for room := 1; room <= 40; room++ {
		for range 5 {
			hasPairs(t, "in another order", madeOf(t, room, shuffled(&c, want)), want)
		}
	}
}

// BU2: many pairs, by keys and then by values.
func TestAllMany(t *testing.T) {
	c := chance.Chance(3)
	var want []Pair
	for key := range uint64(700) {
		for v := range uint32(c.Below(6)) {
			want = append(want, Pair{key << (key % 50), v << (key % 30)})
		}
	}
	slices.SortFunc(want, func(a, b Pair) int {
		return cmp.Or(cmp.Compare(a.Key, b.Key), cmp.Compare(a.Value, b.Value))
	})
	want = slices.Compact(want)
	for _, room := range []int{1, 20, 40} {
		hasPairs(t, "of many", madeOf(t, room, shuffled(&c, want)), want)
	}
}

// BU2: the buckets stand in the order of their bits, each with its own pairs.
func TestBucketsOrder(t *testing.T) {
	for bits := 1; bits <= 12; bits++ {
		x := made(t, 1)
		var want [][2]int
		for i := range uint64(1) << bits {
			puts(t, x, Pair{keyOf(i << (64 - bits)), 0})
			want = append(want, [2]int{bits, 1})
		}
		hasBuckets(t, "of all beginnings", x, want)
		for _, at := range []int{0, 1, 1 << (bits - 1), 1<<bits - 1} {
			drops(t, x, Pair{keyOf(uint64(at) << (64 - bits)), 0})
			want[at][1] = 0
			hasBuckets(t, "of all beginnings, one dropped", x, want)
			puts(t, x, Pair{keyOf(uint64(at) << (64 - bits)), 0})
			want[at][1] = 1
		}
	}
}

// BU2: the greatest depth, wherever its bucket stands, behind Drop too.
func TestDepth(t *testing.T) {
	for _, first := range []uint64{0, 1 << 63, 5 << 61, math.MaxUint64} {
		for depth := 1; depth <= 12; depth++ {
			x := made(t, 1)
			pairs := []Pair{{keyOf(first), 0}, {keyOf(first ^ 1<<(64-depth)), 0}}
			for i, p := range pairs {
				if got := x.Depth(); got != 0 {
					t.Errorf("Depth of %d pairs: %d", i, got)
				}
				puts(t, x, p)
			}
			if got := x.Depth(); got != depth {
				t.Errorf("Depth: %d, want %d", got, depth)
			}
			for _, p := range pairs {
				drops(t, x, p)
			}
			if got := x.Depth(); got != depth {
				t.Errorf("Depth behind Drop: %d, want %d", got, depth)
			}
		}
	}
}

// BU2: whoever goes over the buckets may stop at each of them.
func TestBucketsStop(t *testing.T) {
	x := made(t, 1)
	for i := range uint64(16) {
		puts(t, x, Pair{keyOf(i << 60), 0})
	}
	for stop := range 16 {
		seen := 0
		for range x.buckets {
			if seen++; seen > stop {
				break
			}
		}
		if seen != stop+1 {
			t.Errorf("stopped at bucket %d: %d were seen", stop, seen)
		}
	}
}
