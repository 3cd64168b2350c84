package sum

import (
	"slices"
	"testing"

	"quilt/chance"
)

// rotten is b with those bits changed, each byte's lowest first.
func rotten(b []byte, bits ...int) []byte {
	r := slices.Clone(b)
	for _, bit := range bits {
		r[bit/8] ^= 1 << (bit % 8)
	}
	return r
}

func marked(t *testing.T, b []byte) []byte {
	t.Helper()
	m, err := Mark(b)
	if err != nil || !Good(m) {
		t.Fatalf("Mark of %d bytes: %v", len(b), err)
	}
	return m
}

func notGood(t *testing.T, b []byte, bits ...int) {
	t.Helper()
	if Good(rotten(b, bits...)) {
		t.Fatalf("%d bytes are good with the bits %v changed", len(b), bits)
	}
}

// SM3: one bit, wherever it is, in the sum too.
func TestRotOneBit(t *testing.T) {
	c := chance.Chance(11)
	for _, n := range []int{4, 5, 8, 36, 512, 4096} {
		m := marked(t, c.Bytes(n))
		for bit := range 8 * n {
			notGood(t, m, bit)
		}
	}
}

// SM3: two bits: all pairs of a few bytes, and many of the longest.
func TestRotTwoBits(t *testing.T) {
	c := chance.Chance(12)
	for _, n := range []int{4, 5, 8, 36} {
		m := marked(t, c.Bytes(n))
		for one := range 8 * n {
			for two := range one {
				notGood(t, m, two, one)
			}
		}
	}
	m := marked(t, c.Bytes(4096))
	for range 10000 {
		one, two := c.Below(8*4096), c.Below(8*4096)
		if one != two {
			notGood(t, m, one, two)
		}
	}
}

// SM3: three bits: all threes of a few bytes, and many of a sector and of the longest.
func TestRotThreeBits(t *testing.T) {
	c := chance.Chance(13)
	for _, n := range []int{4, 5, 8, 12} {
		m := marked(t, c.Bytes(n))
		for one := range 8 * n {
			for two := range one {
				for three := range two {
					notGood(t, m, three, two, one)
				}
			}
		}
	}
	for _, n := range []int{512, 4096} {
		m := marked(t, c.Bytes(n))
		for range 10000 {
			one, two, three := c.Below(8*n), c.Below(8*n), c.Below(8*n)
			if one != two && two != three && one != three {
				notGood(t, m, one, two, three)
			}
		}
	}
}

// SM3: some bits within 32 on end, from each place on: the first of them, and any others.
func TestRotOnEnd(t *testing.T) {
	c := chance.Chance(14)
	for _, n := range []int{4, 5, 8, 36, 512} {
		m := marked(t, c.Bytes(n))
		for from := range 8 * n {
			room := min(32, 8*n-from)
			notGood(t, m, onEnd(from, room, 1<<32-1)...)
			notGood(t, m, onEnd(from, room, 1<<31)...)
			for range 6 {
				notGood(t, m, onEnd(from, room, c.Below(1<<31)<<1)...)
			}
		}
	}
	m := marked(t, c.Bytes(4096))
	for range 10000 {
		from := c.Below(8*4096 - 31)
		notGood(t, m, onEnd(from, 32, c.Below(1<<31)<<1)...)
	}
}

// onEnd are the bit from, and those of the next ones that are in others, of room in all.
func onEnd(from, room, others int) []int {
	l := []int{from}
	for i := 1; i < room; i++ {
		if others>>i&1 == 1 {
			l = append(l, from+i)
		}
	}
	return l
}

// SM3: bytes of one kind rot as any others do.
func TestRotPlain(t *testing.T) {
	for _, x := range []byte{0, 0xff, 0x55} {
		m := marked(t, run(512, func(int) byte { return x }))
		for bit := range 8 * 512 {
			notGood(t, m, bit)
			notGood(t, m, bit, (bit+8)%(8*512))
			notGood(t, m, bit, (bit+1)%(8*512), (bit+2000)%(8*512))
			notGood(t, m, onEnd(bit, min(32, 8*512-bit), 1<<32-1)...)
		}
	}
}
