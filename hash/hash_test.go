package hash

import (
	"math"
	"math/big"
	"math/bits"
	"testing"

	"quilt/chance"
)

// number is one of 64 bits, by chance.
func number(c *chance.Chance) uint64 {
	var x uint64
	for _, b := range c.Bytes(8) {
		x = x<<8 | uint64(b)
	}
	return x
}

// edges are the numbers at which a reckoning of 64 bits may go wrong: both ends, the middle, each single bit, all below it, and all others.
func edges() []uint64 {
	l := []uint64{0, 1, math.MaxUint64, math.MaxInt64, 0x9e3779b97f4a7c15, -0x9e3779b97f4a7c15 & math.MaxUint64, 0xbf58476d1ce4e5b9, 0x94d049bb133111eb, 0x5555555555555555, 0xaaaaaaaaaaaaaaaa}
	for i := range 64 {
		l = append(l, 1<<i, 1<<i-1, ^uint64(1<<i))
	}
	return l
}

// many are the edges, and numbers by chance.
func many(seed chance.Chance, n int) []uint64 {
	l := edges()
	for range n {
		l = append(l, number(&seed))
	}
	return l
}

// mixed is Mix as the chapter tells it, in numbers without an end that are cut behind each step: another way than the package's own, to hold it against.
func mixed(x uint64) uint64 {
	all := new(big.Int).Lsh(big.NewInt(1), 64)
	n := new(big.Int).SetUint64(x)
	for _, step := range []struct {
		down   uint
		factor uint64
	}{{30, 0xbf58476d1ce4e5b9}, {27, 0x94d049bb133111eb}, {31, 1}} {
		n.Xor(n, new(big.Int).Rsh(n, step.down))
		n.Mul(n, new(big.Int).SetUint64(step.factor))
		n.Mod(n, all)
	}
	return n.Uint64()
}

// sum is of two numbers modulo 2^64, by its carry.
func sum(a, b uint64) uint64 {
	s, _ := bits.Add64(a, b, 0)
	return s
}

// keyed is Of as the chapter tells it.
func keyed(l []uint64) uint64 {
	k := uint64(0x9e3779b97f4a7c15)
	for _, n := range l {
		k = mixed(sum(k^n, 0x9e3779b97f4a7c15))
	}
	return k
}

// HA1: numbers that others mixed: the first ones of the generator that mixes each multiple of 9e3779b97f4a7c15 added to a seed.
func TestMixKnown(t *testing.T) {
	known := map[uint64][]uint64{
		0:       {0xe220a8397b1dcdaf, 0x6e789e6aa1b965f4, 0x06c45d188009454f, 0xf88bb8a8724c81ec, 0x1b39896a51a8749b},
		1234567: {6457827717110365317, 3203168211198807973, 9817491932198370423, 4593380528125082431, 16408922859458223821},
	}
	for seed, l := range known {
		x := seed
		for i, want := range l {
			x = sum(x, 0x9e3779b97f4a7c15)
			if got := Mix(x); got != want {
				t.Errorf("Mix of number %d behind %d: %x, want %x", i, seed, got, want)
			}
			if got := Back(want); got != x {
				t.Errorf("Back of number %d behind %d: %x, want %x", i, seed, got, x)
			}
		}
	}
	if Mix(0) != 0 || Back(0) != 0 {
		t.Errorf("of 0: %x, %x", Mix(0), Back(0))
	}
}

// HA1: both ends, each single bit, and many numbers, as the chapter reckons.
func TestMixReckoned(t *testing.T) {
	for _, x := range many(1, 20000) {
		if got, want := Mix(x), mixed(x); got != want {
			t.Fatalf("Mix(%x): %x, want %x", x, got, want)
		}
	}
}

// HA1: Back is the number whose Mix is x, of the ends, each single bit, and many numbers.
func TestBackReckoned(t *testing.T) {
	for _, x := range many(2, 20000) {
		if got := mixed(Back(x)); got != x {
			t.Fatalf("Back(%x): %x, of which Mix is %x", x, Back(x), got)
		}
		if got := Back(mixed(x)); got != x {
			t.Fatalf("Back(%x): %x, want %x", mixed(x), got, x)
		}
	}
}

// HA3: Back of Mix, and Mix of Back, are the number.
func TestThereAndBack(t *testing.T) {
	for _, x := range many(3, 200000) {
		if got := Back(Mix(x)); got != x {
			t.Fatalf("Back(Mix(%x)): %x", x, got)
		}
		if got := Mix(Back(x)); got != x {
			t.Fatalf("Mix(Back(%x)): %x", x, got)
		}
	}
	for x := range uint64(1 << 16) {
		if Back(Mix(x)) != x || Mix(Back(x)) != x {
			t.Fatalf("there and back of %x: %x, %x", x, Back(Mix(x)), Mix(Back(x)))
		}
	}
}
