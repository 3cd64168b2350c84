package bucket

import (
	"errors"
	"math"
	"slices"
	"testing"

	"quilt/api"
	"quilt/chance"
	"quilt/hash"
)

func made(t *testing.T, room int) *Index {
	t.Helper()
	x, err := New(room)
	if err != nil || x == nil {
		t.Fatalf("New(%d): %v, %v", room, x, err)
	}
	return x
}

// madeOf is an index of these pairs, put one by one.
func madeOf(t *testing.T, room int, pairs []Pair) *Index {
	t.Helper()
	x := made(t, room)
	for _, p := range pairs {
		puts(t, x, p)
	}
	return x
}

func puts(t *testing.T, x *Index, p Pair) {
	t.Helper()
	if err := x.Put(p.Key, p.Value); err != nil {
		t.Fatalf("Put(%x, %d): %v", p.Key, p.Value, err)
	}
}

func drops(t *testing.T, x *Index, p Pair) {
	t.Helper()
	if err := x.Drop(p.Key, p.Value); err != nil {
		t.Fatalf("Drop(%x, %d): %v", p.Key, p.Value, err)
	}
}

func fails(t *testing.T, what string, err error, want api.Errno) {
	t.Helper()
	var number api.Errno
	if !errors.As(err, &number) || number != want {
		t.Errorf("%s: %v, want %v", what, err, want)
	}
}

func hasBuckets(t *testing.T, what string, x *Index, want [][2]int) {
	t.Helper()
	if got := x.Buckets(); !slices.Equal(got, want) {
		t.Errorf("Buckets %s: %v, want %v", what, got, want)
	}
	greatest := 0
	for _, b := range want {
		greatest = max(greatest, b[0])
	}
	if got := x.Depth(); got != greatest {
		t.Errorf("Depth %s: %d, want %d", what, got, greatest)
	}
}

func hasPairs(t *testing.T, what string, x *Index, want []Pair) {
	t.Helper()
	if got := x.All(); !slices.Equal(got, want) {
		t.Errorf("All %s: %x, want %x", what, got, want)
	}
}

func gets(t *testing.T, x *Index, key uint64, want ...uint32) {
	t.Helper()
	if got := x.Get(key); !slices.Equal(got, want) {
		t.Errorf("Get(%x): %v, want %v", key, got, want)
	}
}

// keyOf is the key whose Mix is that number.
func keyOf(mixed uint64) uint64 { return hash.Back(mixed) }

// ofOneKey are so many pairs of a key, of the values from 0 on.
func ofOneKey(key uint64, n int) []Pair {
	var l []Pair
	for v := range uint32(n) {
		l = append(l, Pair{key, v})
	}
	return l
}

// shuffled are pairs in another order, by chance.
func shuffled(c *chance.Chance, l []Pair) []Pair {
	l = slices.Clone(l)
	for i := range l {
		j := i + c.Below(len(l)-i)
		l[i], l[j] = l[j], l[i]
	}
	return l
}

// BU1: the rooms that can be, and those that can't.
func TestNew(t *testing.T) {
	for _, room := range []int{math.MinInt, -40, -1, 0, 41, 42, 1 << 8, 1<<8 + 1, 1 << 32, 1<<32 + 1, math.MaxInt} {
		x, err := New(room)
		fails(t, "New", err, api.ErrArg)
		if x != nil {
			t.Errorf("New(%d): an index beside the error", room)
		}
	}
	for room := 1; room <= 40; room++ {
		x := made(t, room)
		hasBuckets(t, "of a new one", x, [][2]int{{0, 0}})
		hasPairs(t, "of a new one", x, nil)
		gets(t, x, 0)
	}
}

// BU1: the example, with what follows from it: the Mix of 0 is 0, that of 1 begins with 0101.
func TestPutExample(t *testing.T) {
	x := made(t, 1)
	puts(t, x, Pair{0, 5})
	hasBuckets(t, "of one pair", x, [][2]int{{0, 1}})
	puts(t, x, Pair{1, 6})
	hasBuckets(t, "of the keys 0 and 1", x, [][2]int{{2, 1}, {2, 1}, {1, 0}})
	gets(t, x, 0, 5)
	gets(t, x, 1, 6)
}

// BU1: a pair that is there is not put again, and nothing changes; pairs that have just one of both are others.
func TestPutTwice(t *testing.T) {
	for _, room := range []int{1, 2, 40} {
		x := made(t, room)
		var l []Pair
		for _, key := range []uint64{0, 1, 1 << 32, 1 << 63, math.MaxUint64} {
			for _, value := range []uint32{0, 1, 1 << 31, math.MaxUint32} {
				l = append(l, Pair{key, value})
				puts(t, x, Pair{key, value})
				before := x.Buckets()
				for _, p := range l {
					fails(t, "Put of a pair that is there", x.Put(p.Key, p.Value), api.ErrTwice)
				}
				hasPairs(t, "behind pairs put twice", x, l)
				hasBuckets(t, "behind pairs put twice", x, before)
			}
		}
	}
}

// BU1: a bucket with just room pairs stays, with one more it is split.
func TestPutRoom(t *testing.T) {
	for room := 1; room <= 40; room++ {
		x := made(t, room)
		for i := range uint64(room) {
			puts(t, x, Pair{keyOf(i<<63 | i), 0})
		}
		hasBuckets(t, "with just room pairs", x, [][2]int{{0, room}})
		puts(t, x, Pair{keyOf(uint64(room)<<63 | uint64(room)), 0})
		hasBuckets(t, "with one more", x, [][2]int{{1, room/2 + 1}, {1, (room + 1) / 2}})
	}
}

// BU1: a split bucket's halves are split one by one, and only that which is too full.
func TestPutHalves(t *testing.T) {
	x := made(t, 2)
	for i, want := range [][][2]int{
		{{0, 1}},
		{{0, 2}},
		{{2, 1}, {2, 2}, {1, 0}},         // one more of 01: of 00 there is one
		{{2, 1}, {2, 2}, {1, 1}},         // of 1
		{{2, 2}, {2, 2}, {1, 1}},         // of 00
		{{2, 2}, {2, 2}, {1, 2}},         // of 1
		{{2, 2}, {2, 2}, {2, 2}, {2, 1}}, // of 10: of 10 and 11 there is one each
	} {
		first := []uint64{0b0000, 0b0100, 0b0101, 0b1000, 0b0010, 0b1100, 0b1011}[i]
		puts(t, x, Pair{keyOf(first << 60), 7})
		hasBuckets(t, "of a few", x, want)
	}
}

// BU1: keys whose Mix has its first bits in common, up to all but the last one: the bucket with them is split till they part, or till it is of depth 12.
func TestPutCommonBits(t *testing.T) {
	for common := range 64 {
		depth, last := common+1, [][2]int{{common + 1, 1}, {common + 1, 1}}
		if common >= 12 {
			depth, last = 12, [][2]int{{12, 2}}
		}
		var beside [][2]int
		for d := 1; d <= min(common, 12); d++ {
			beside = append(beside, [2]int{d, 0})
		}
		x := madeOf(t, 1, []Pair{{keyOf(0), 1}, {keyOf(1 << (63 - common)), 2}})
		backwards := slices.Clone(beside)
		slices.Reverse(backwards)
		hasBuckets(t, "behind noughts", x, slices.Concat(last, backwards))

		x = madeOf(t, 1, []Pair{{keyOf(math.MaxUint64), 1}, {keyOf(math.MaxUint64 - 1<<(63-common)), 2}})
		hasBuckets(t, "behind ones", x, slices.Concat(beside, last))
		if x.Depth() != depth {
			t.Errorf("Depth with %d bits in common: %d", common, x.Depth())
		}
	}
}

// BU1: more pairs of one key than a bucket has room for: it is of depth 12, and has them all.
func TestPutOneKey(t *testing.T) {
	for _, room := range []int{1, 2, 20, 39, 40} {
		x := madeOf(t, room, ofOneKey(keyOf(0), room))
		hasBuckets(t, "of just room pairs of one key", x, [][2]int{{0, room}})
		puts(t, x, Pair{keyOf(0), 1000})
		want := [][2]int{{12, room + 1}}
		for d := 12; d > 0; d-- {
			want = append(want, [2]int{d, 0})
		}
		hasBuckets(t, "of one more", x, want)
		for v := range uint32(900) {
			puts(t, x, Pair{keyOf(0), 2000 + v})
		}
		want[0][1] += 900
		hasBuckets(t, "of many of one key", x, want)
		if got := len(x.Get(keyOf(0))); got != room+901 {
			t.Errorf("Get of one key: %d values, want %d", got, room+901)
		}
		// A key with the same first bits is beside them, one with another 12th bit isn't.
		puts(t, x, Pair{keyOf(1<<52 - 1), 3})
		puts(t, x, Pair{keyOf(1 << 52), 3})
		want[0][1], want[1][1] = want[0][1]+1, 1
		hasBuckets(t, "of one key, and others", x, want)
	}
}

// BU1: what is not there can't be dropped, and nothing changes.
func TestDropNone(t *testing.T) {
	for _, room := range []int{1, 40} {
		x := made(t, room)
		fails(t, "Drop from nothing", x.Drop(0, 0), api.ErrNone)
		l := []Pair{{0, 1}, {0, 3}, {1, 2}, {math.MaxUint64, math.MaxUint32}}
		for _, p := range l {
			puts(t, x, p)
		}
		before := x.Buckets()
		for _, p := range []Pair{{0, 0}, {0, 2}, {0, 4}, {1, 1}, {1, 3}, {2, 0}, {2, 1}, {math.MaxUint64, 0}, {math.MaxUint64 - 1, math.MaxUint32}} {
			fails(t, "Drop of what is not there", x.Drop(p.Key, p.Value), api.ErrNone)
		}
		hasPairs(t, "behind Drop of what is not there", x, l)
		hasBuckets(t, "behind Drop of what is not there", x, before)
	}
}

// BU1: what is dropped is not there, alone; it can be put again.
func TestDropAgain(t *testing.T) {
	l := []Pair{{0, 1}, {0, 3}, {0, 5}, {1, 1}, {1, 3}, {2, 3}}
	for _, room := range []int{1, 2, 40} {
		for i, p := range l {
			x := madeOf(t, room, l)
			before := x.Buckets()
			drops(t, x, p)
			hasPairs(t, "behind Drop", x, slices.Delete(slices.Clone(l), i, i+1))
			if slices.Contains(x.Get(p.Key), p.Value) {
				t.Errorf("Get(%d): has %d, which was dropped", p.Key, p.Value)
			}
			fails(t, "Drop, again", x.Drop(p.Key, p.Value), api.ErrNone)
			puts(t, x, p)
			fails(t, "Put, again", x.Put(p.Key, p.Value), api.ErrTwice)
			hasPairs(t, "behind Put of what was dropped", x, l)
			hasBuckets(t, "behind Put of what was dropped", x, before)
		}
	}
}

// BU1: buckets stay behind Drop, without pairs too, and are as they were for what is put then.
func TestDropBucketsStay(t *testing.T) {
	c := chance.Chance(1)
	for _, room := range []int{1, 5, 40} {
		var l []Pair
		for range 500 {
			l = append(l, Pair{keyOf(uint64(c.Below(1<<14)) << 48), uint32(len(l))})
		}
		x := madeOf(t, room, l)
		full := x.Buckets()
		for _, p := range shuffled(&c, l) {
			drops(t, x, p)
		}
		empty := slices.Clone(full)
		for i := range empty {
			empty[i][1] = 0
		}
		hasBuckets(t, "behind Drop of all", x, empty)
		hasPairs(t, "behind Drop of all", x, nil)
		for _, p := range shuffled(&c, l) {
			puts(t, x, p)
		}
		hasBuckets(t, "behind Put of all, again", x, full)
	}
}

// BU1: a bucket that stayed is split as each other one is.
func TestDropThenSplit(t *testing.T) {
	x := madeOf(t, 2, []Pair{{keyOf(0), 0}, {keyOf(1 << 63), 0}, {keyOf(1<<63 | 1), 0}})
	drops(t, x, Pair{keyOf(1 << 63), 0})
	drops(t, x, Pair{keyOf(1<<63 | 1), 0})
	hasBuckets(t, "that stayed", x, [][2]int{{1, 1}, {1, 0}})
	puts(t, x, Pair{keyOf(1 << 62), 0})
	hasBuckets(t, "with room pairs", x, [][2]int{{1, 2}, {1, 0}})
	puts(t, x, Pair{keyOf(1<<62 | 1), 0})
	hasBuckets(t, "with one more", x, [][2]int{{2, 1}, {2, 2}, {1, 0}})

	// Of depth 12 it may get emptier, and fuller again.
	x = madeOf(t, 3, ofOneKey(keyOf(math.MaxUint64), 10))
	depths := x.Buckets()
	for v := range uint32(9) {
		drops(t, x, Pair{keyOf(math.MaxUint64), v})
	}
	depths[len(depths)-1][1] = 1
	hasBuckets(t, "of one key, nearly all dropped", x, depths)
	for v := range uint32(20) {
		puts(t, x, Pair{keyOf(math.MaxUint64), 100 + v})
	}
	depths[len(depths)-1][1] = 21
	hasBuckets(t, "of one key, put again", x, depths)
}
