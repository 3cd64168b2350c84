package bucket

import (
	"slices"

	"quilt/hash"
)

const mostDepth = 12

// bucket is the pairs of all keys whose Mix begins with the bits that lead to it. Once it was split it is no bucket any more, but leads on to its halves.
type bucket struct {
	depth  int
	count  int                 // of its pairs
	values map[uint64][]uint32 // of each key, ascending; no key is without one
	halves [2]*bucket          // that of the next bit 0, and that of 1; none till it is split
}

func newBucket(depth int) *bucket {
	return &bucket{depth: depth, values: map[uint64][]uint32{}}
}

// leadTo is the bucket of a mixed key.
func (b *bucket) leadTo(mixed uint64) *bucket {
	for b.isSplit() {
		b = b.half(mixed)
	}
	return b
}

// each hands all buckets that b is, or became, to yield, till that wants no more. It tells whether yield still does.
func (b *bucket) each(yield func(*bucket) bool) bool {
	if !b.isSplit() {
		return yield(b)
	}
	return b.halves[0].each(yield) && b.halves[1].each(yield)
}

// find is where a value stands among its key's, or would stand, and whether it is there.
func (b *bucket) find(key uint64, value uint32) (int, bool) {
	return slices.BinarySearch(b.values[key], value)
}

// insert adds a value to its key's, where find would have it.
func (b *bucket) insert(key uint64, at int, value uint32) {
	b.values[key] = slices.Insert(b.values[key], at, value)
	b.count++
}

// remove takes away the value that find found.
func (b *bucket) remove(key uint64, at int) {
	b.values[key] = slices.Delete(b.values[key], at, at+1)
	if len(b.values[key]) == 0 {
		delete(b.values, key)
	}
	b.count--
}

// split parts the pairs by one bit more.
func (b *bucket) split() {
	for bit := range b.halves {
		b.halves[bit] = newBucket(b.depth + 1)
	}
	for key, values := range b.values {
		half := b.half(hash.Mix(key))
		half.values[key] = values
		half.count += len(values)
	}
	b.values, b.count = nil, 0
}

func (b *bucket) isSplit() bool { return b.halves[0] != nil }

// half is the one to which a mixed key leads on.
func (b *bucket) half(mixed uint64) *bucket {
	return b.halves[hash.Front(mixed<<b.depth, 1)]
}

// appendTo adds all pairs to others, in no order.
func (b *bucket) appendTo(pairs []Pair) []Pair {
	for key, values := range b.values {
		for _, v := range values {
			pairs = append(pairs, Pair{key, v})
		}
	}
	return pairs
}
