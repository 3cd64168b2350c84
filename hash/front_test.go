package hash

import (
	"math"
	"testing"
)

// begun is Front as the chapter tells it, bit by bit.
func begun(key uint64, bits int) int {
	n := 0
	for i := 0; i < bits && i < 32; i++ {
		n *= 2
		if key&(1<<(63-i)) != 0 {
			n++
		}
	}
	return n
}

// HA2: the edges of bits, of keys at the edges and many others.
func TestFrontReckoned(t *testing.T) {
	for _, key := range many(1, 2000) {
		for bits := -70; bits <= 140; bits++ {
			if got, want := Front(key, bits), begun(key, bits); got != want {
				t.Fatalf("Front(%x, %d): %x, want %x", key, bits, got, want)
			}
		}
	}
}

// HA2: fronts that the chapter's words tell at sight.
func TestFrontKnown(t *testing.T) {
	known := []struct {
		key        uint64
		bits, want int
	}{
		{0x123456789abcdef0, 4, 1},
		{0x123456789abcdef0, 12, 0x123},
		{0x123456789abcdef0, 32, 0x12345678},
		{0xfedcba9876543210, 1, 1},
		{0xfedcba9876543210, 31, 0x7f6e5d4c},
		{0xfedcba9876543210, 32, 0xfedcba98},
		{0xfedcba9876543210, 33, 0xfedcba98},
		{0xfedcba9876543210, 64, 0xfedcba98},
		{1 << 63, 1, 1},
		{1<<63 - 1, 1, 0},
		{1 << 32, 32, 1},
		{1<<32 - 1, 32, 0},
		{1<<32 - 1, 33, 0},
		{1<<32 - 1, 64, 0},
		{1 << 33, 31, 1},
		{1 << 32, 31, 0},
	}
	for _, k := range known {
		if got := Front(k.key, k.bits); got != k.want {
			t.Errorf("Front(%x, %d): %x, want %x", k.key, k.bits, got, k.want)
		}
	}
}

// HA2: of bits below 1 it is 0, and of bits above 32 as of 32, however far.
func TestFrontBounds(t *testing.T) {
	ones := uint64(math.MaxUint64)
	for _, key := range append(edges(), ones) {
		for _, bits := range []int{0, -1, -2, -31, -32, -33, -63, -64, -65, -1 << 31, -1 << 32, math.MinInt + 64, math.MinInt + 1, math.MinInt} {
			if got := Front(key, bits); got != 0 {
				t.Errorf("Front(%x, %d): %x", key, bits, got)
			}
		}
		for _, bits := range []int{33, 34, 63, 64, 65, 96, 128, 256, 1 << 31, 1 << 32, 1<<32 + 1, math.MaxInt - 1, math.MaxInt} {
			if got, want := Front(key, bits), int(key>>32); got != want {
				t.Errorf("Front(%x, %d): %x, want %x", key, bits, got, want)
			}
		}
	}
	for bits := 1; bits <= 32; bits++ {
		if got := Front(0, bits); got != 0 {
			t.Errorf("Front(0, %d): %x", bits, got)
		}
		if got := Front(ones, bits); got != 1<<bits-1 {
			t.Errorf("Front of all ones, of %d: %x", bits, got)
		}
	}
}
