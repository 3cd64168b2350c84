package sum

import (
	"bytes"
	"errors"
	"math"
	"slices"
	"testing"

	"quilt/api"
	"quilt/chance"
)

// reckoned is the sum of bytes word by word as the chapter tells it: another way than the package's own, to hold it against.
func reckoned(b []byte) uint32 {
	register := uint32(math.MaxUint32)
	for _, x := range b {
		for bit := 0; bit < 8; bit++ {
			same := register%2 == uint32(x>>bit)%2
			register /= 2
			if !same {
				register ^= 0x82f63b78
			}
		}
	}
	return math.MaxUint32 - register
}

func run(n int, at func(i int) byte) []byte {
	b := make([]byte, n)
	for i := range b {
		b[i] = at(i)
	}
	return b
}

// SM1: sums that others reckoned.
func TestSumKnown(t *testing.T) {
	known := []struct {
		b    []byte
		want uint32
	}{
		{nil, 0},
		{[]byte{}, 0},
		{[]byte{0}, 0x527d5351},
		{[]byte("a"), 0xc1d04330},
		{[]byte("123456789"), 0xe3069283},
		{run(32, func(int) byte { return 0 }), 0x8a9136aa},
		{run(32, func(int) byte { return 0xff }), 0x62a8ab43},
		{run(32, func(i int) byte { return byte(i) }), 0x46dd794e},
		{run(32, func(i int) byte { return byte(31 - i) }), 0x113fdb5c},
	}
	for _, k := range known {
		if got := Sum(k.b); got != k.want {
			t.Errorf("Sum(%x): %08x, want %08x", k.b, got, k.want)
		}
	}
}

// SM1: each byte alone, and bytes of all lengths, as the chapter reckons.
func TestSumReckoned(t *testing.T) {
	for x := range 256 {
		b := []byte{byte(x)}
		if got, want := Sum(b), reckoned(b); got != want {
			t.Errorf("Sum(%x): %08x, want %08x", b, got, want)
		}
	}
	c := chance.Chance(1)
	for n := range 700 {
		b := c.Bytes(n)
		if got, want := Sum(b), reckoned(b); got != want {
			t.Fatalf("Sum of %d bytes: %08x, want %08x", n, got, want)
		}
	}
}

// SM1: More goes on from a sum, wherever the bytes are parted.
func TestMore(t *testing.T) {
	c := chance.Chance(2)
	b := c.Bytes(300)
	want := reckoned(b)
	for k := range len(b) + 1 {
		if got := More(reckoned(b[:k]), b[k:]); got != want {
			t.Fatalf("More behind %d bytes: %08x, want %08x", k, got, want)
		}
	}
	for _, s := range []uint32{0, 1, 0x80000000, 0xe3069283, math.MaxUint32} {
		if More(s, nil) != s || More(s, []byte{}) != s {
			t.Errorf("More(%08x) of no bytes is not that", s)
		}
	}
	if got := More(0, b); got != want {
		t.Errorf("More(0): %08x, want the sum %08x", got, want)
	}
	s := uint32(0)
	for _, x := range b {
		s = More(s, []byte{x})
	}
	if s != want {
		t.Errorf("More, byte by byte: %08x, want %08x", s, want)
	}
}

// SM1: some noughts are as bytes of 0.
func TestNoughtsFew(t *testing.T) {
	c := chance.Chance(3)
	for n := range 1100 {
		b := c.Bytes(n % 50)
		want := reckoned(append(slices.Clone(b), make([]byte, n)...))
		if got := Noughts(reckoned(b), n); got != want {
			t.Fatalf("Noughts(%08x, %d): %08x, want %08x", reckoned(b), n, got, want)
		}
	}
	for _, n := range []int{1<<16 - 1, 1 << 16, 1<<20 + 1} {
		if got, want := Noughts(0x12345678, n), More(0x12345678, make([]byte, n)); got != want {
			t.Errorf("Noughts of %d: %08x, want %08x", n, got, want)
		}
	}
}

// SM1: of n below 1 the sum itself.
func TestNoughtsNone(t *testing.T) {
	for _, n := range []int{0, -1, -2, -512, -1 << 31, -1 << 40, math.MinInt + 1, math.MinInt} {
		for _, s := range []uint32{0, 1, 0xe3069283, math.MaxUint32} {
			if got := Noughts(s, n); got != s {
				t.Errorf("Noughts(%08x, %d): %08x", s, n, got)
			}
		}
	}
}

// SM1: each power of two up to the greatest is twice the one below, and so from one byte of 0 on all are held to be right.
func TestNoughtsDoubled(t *testing.T) {
	for _, s := range []uint32{0, 1, 0x0bc08121, 0xe3069283, math.MaxUint32} {
		if got, want := Noughts(s, 1), More(s, []byte{0}); got != want {
			t.Errorf("Noughts(%08x, 1): %08x, want %08x", s, got, want)
		}
		for k := range 40 {
			half := 1 << k
			if got, want := Noughts(s, 2*half), Noughts(Noughts(s, half), half); got != want {
				t.Errorf("Noughts(%08x, 2^%d): %08x, want %08x", s, k+1, got, want)
			}
		}
	}
}

// SM1: noughts on noughts are all of them.
func TestNoughtsAdded(t *testing.T) {
	c := chance.Chance(4)
	for range 200 {
		s, n, m := uint32(c.Below(1<<31)), c.Below(1<<20)<<c.Below(20), c.Below(1<<30)
		if n+m > 1<<40 {
			continue
		}
		if got, want := Noughts(Noughts(s, n), m), Noughts(s, n+m); got != want {
			t.Fatalf("Noughts(%08x) of %d and %d: %08x, want %08x", s, n, m, got, want)
		}
	}
}

// SM1: of n above 2^40 as of 2^40, and not of less. (A register is as it was behind each 2^31 - 1 noughts, so 2^40 are as 512.)
func TestNoughtsMost(t *testing.T) {
	for _, s := range []uint32{0, 0x12345678, 0xe3069283} {
		if got := Noughts(s, 1<<31-1); got != s {
			t.Errorf("Noughts(%08x, 2^31 - 1): %08x", s, got)
		}
		want := More(s, make([]byte, 512))
		for _, n := range []int{1 << 40, 1<<40 + 1, 1<<40 + 2, 1 << 41, 3 << 40, 1 << 62, math.MaxInt - 1, math.MaxInt} {
			if got := Noughts(s, n); got != want {
				t.Errorf("Noughts(%08x, %d): %08x, want %08x", s, n, got, want)
			}
		}
		if got, less := Noughts(s, 1<<40-1), More(s, make([]byte, 511)); got != less {
			t.Errorf("Noughts(%08x, 2^40 - 1): %08x, want %08x", s, got, less)
		}
	}
	if got := Noughts(0x12345678, 1<<40); got != 0x0bc08121 {
		t.Errorf("Noughts(12345678, 2^40): %08x", got)
	}
}

// SM2: the sum of all but the last four stands in these, lowest byte first.
func TestMark(t *testing.T) {
	known := []struct{ b, want []byte }{
		{[]byte{1, 2, 3, 4}, []byte{0, 0, 0, 0}},
		{[]byte("\x009999"), []byte("\x00\x51\x53\x7d\x52")},
		{[]byte("123456789...."), []byte("123456789\x83\x92\x06\xe3")},
		{append(make([]byte, 32), 1, 2, 3, 4), append(make([]byte, 32), 0xaa, 0x36, 0x91, 0x8a)},
	}
	for _, k := range known {
		if got, err := Mark(k.b); err != nil || !bytes.Equal(got, k.want) {
			t.Errorf("Mark(%x): %x, %v, want %x", k.b, got, err, k.want)
		}
	}
	c := chance.Chance(5)
	for n := 4; n < 600; n++ {
		b := c.Bytes(n)
		s := reckoned(b[:n-4])
		want := append(slices.Clone(b[:n-4]), byte(s), byte(s>>8), byte(s>>16), byte(s>>24))
		got, err := Mark(b)
		if err != nil || !bytes.Equal(got, want) {
			t.Fatalf("Mark of %d bytes: %x, %v, want %x", n, got, err, want)
		}
		if again, err := Mark(got); err != nil || !bytes.Equal(again, want) {
			t.Fatalf("Mark of %d marked bytes: %x, %v, want %x", n, again, err, want)
		}
	}
}

// SM2: fewer than four bytes are ErrArg, with no bytes beside it, and not good.
func TestFewerThanFour(t *testing.T) {
	short := [][]byte{nil, {}, {0}, {1}, {0, 0}, {0, 0, 0}, {1, 2, 3}, make([]byte, 3, 8), make([]byte, 8)[:0]}
	for _, b := range short {
		got, err := Mark(b)
		var number api.Errno
		if !errors.As(err, &number) || number != api.ErrArg || len(got) != 0 {
			t.Errorf("Mark(%x): %x, %v", b, got, err)
		}
		if Good(b) {
			t.Errorf("Good(%x)", b)
		}
	}
}

// SM2: what is marked is good, and only that.
func TestGood(t *testing.T) {
	c := chance.Chance(6)
	for n := 4; n < 600; n++ {
		b := c.Bytes(n)
		marked, err := Mark(b)
		if err != nil || !Good(marked) {
			t.Fatalf("what Mark made of %d bytes (%v) is not good", n, err)
		}
		if Good(b) != bytes.Equal(b, marked) {
			t.Fatalf("Good(%x), marked %x", b, marked)
		}
		turned := slices.Clone(marked)
		slices.Reverse(turned[n-4:])
		if Good(turned) != bytes.Equal(turned, marked) {
			t.Fatalf("Good(%x): the sum the other way round", turned)
		}
	}
	if !Good([]byte{0, 0, 0, 0}) {
		t.Error("four noughts are the sum of nothing")
	}
	if Good([]byte{0, 0, 0, 0, 0}) || Good([]byte{0, 0, 0, 1}) || Good(make([]byte, 512)) {
		t.Error("good, without their sum")
	}
}

// Rule 3: what is handed in stays as it is, its spare room too.
func TestHandedInStays(t *testing.T) {
	c := chance.Chance(7)
	for _, n := range []int{0, 3, 4, 5, 512} {
		whole := c.Bytes(n + 40)
		before := slices.Clone(whole)
		b := whole[:n]
		Sum(b)
		More(7, b)
		Mark(b)
		Good(b)
		if !bytes.Equal(whole, before) {
			t.Errorf("%d bytes were changed", n)
		}
	}
}

// Rule 3: what Mark answers shares no memory with what it was given, nor with what it answered before.
func TestAnswersApart(t *testing.T) {
	c := chance.Chance(8)
	for _, n := range []int{4, 5, 512} {
		whole := c.Bytes(n + 40)
		marked, err := Mark(whole[:n])
		if err != nil {
			t.Fatal(err)
		}
		other, err := Mark(marked)
		if err != nil {
			t.Fatal(err)
		}
		before, kept := slices.Clone(whole), slices.Clone(other)
		marked = marked[:cap(marked)]
		for i := range marked {
			marked[i] ^= 0xff
		}
		if !bytes.Equal(whole, before) {
			t.Errorf("an answer of %d bytes shares memory with the argument", n)
		}
		if !bytes.Equal(other, kept) {
			t.Errorf("two answers of %d bytes share memory", n)
		}
	}
}
