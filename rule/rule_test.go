package rule

import (
	"errors"
	"math"
	"testing"

	"quilt/api"
)

func isError(err error, want api.Errno) bool {
	var number api.Errno
	return errors.As(err, &number) && number == want
}

// eachThatMayBe goes over every rule that may be: all bits from 1 to 8 of Born, and from 0 to 8 of Live.
func eachThatMayBe(yield func(Rule) bool) {
	for born := range uint16(256) {
		for live := range uint16(512) {
			if !yield(Rule{born * 2, live}) {
				return
			}
		}
	}
}

// mayBe is the chapter's word, bit by bit.
func mayBe(r Rule) bool {
	for bit := range 16 {
		born, live := r.Born/(1<<bit)%2 == 1, r.Live/(1<<bit)%2 == 1
		if bit == 0 && born || bit > 8 && (born || live) {
			return false
		}
	}
	return true
}

// wrong are rules that may not be: one bit above 8 in one part or in both, or Born for 0, or several of these, beside bits that may be.
func wrong() []Rule {
	l := []Rule{{1, 0}, {1, 12}, {9, 12}, {0x1ff, 0x1ff}, {0xffff, 0xffff}, {0xfffe, 0}, {0, 0xffff}, {0xfe00, 0}, {0, 0xfe00}, {0x201, 0x200}}
	for bit := 9; bit < 16; bit++ {
		for _, beside := range []Rule{{}, {8, 12}, {0x1fe, 0x1ff}} {
			high := uint16(1) << bit
			l = append(l,
				Rule{beside.Born | high, beside.Live},
				Rule{beside.Born, beside.Live | high},
				Rule{beside.Born | high, beside.Live | high},
				Rule{beside.Born | high | 1, beside.Live},
				Rule{beside.Born | 1, beside.Live | high},
				Rule{beside.Born | high | 1, beside.Live | high})
		}
	}
	return l
}

// RU1: every rule that may be.
func TestCheckMayBe(t *testing.T) {
	n := 0
	for r := range eachThatMayBe {
		n++
		if err := Check(r); err != nil {
			t.Fatalf("Check(%x): %v", r, err)
		}
	}
	if n != 1<<17 {
		t.Fatalf("%d rules", n)
	}
}

// RU1: rules that may not be, by Born, by Live, and by both.
func TestCheckWrong(t *testing.T) {
	for _, r := range wrong() {
		if err := Check(r); !isError(err, api.ErrRule) {
			t.Errorf("Check(%x): %v", r, err)
		}
	}
}

// RU1: whatever one part is, beside some of the other.
func TestCheckAnyPart(t *testing.T) {
	some := []uint16{0, 1, 8, 12, 0x1fe, 0x1ff, 0x200, 0x201, 0x8000, 0xffff}
	for part := range 1 << 16 {
		for _, other := range some {
			for _, r := range []Rule{{uint16(part), other}, {other, uint16(part)}} {
				err := Check(r)
				if mayBe(r) && err != nil || !mayBe(r) && !isError(err, api.ErrRule) {
					t.Fatalf("Check(%x): %v", r, err)
				}
			}
		}
	}
}

// RU2: of every rule that may be, with each number of neighbours.
func TestNext(t *testing.T) {
	for r := range eachThatMayBe {
		for n := range 9 {
			born, err := Next(r, false, n)
			if err != nil || born != (r.Born/(1<<n)%2 == 1) {
				t.Fatalf("Next(%x, false, %d): %v, %v", r, n, born, err)
			}
			live, err := Next(r, true, n)
			if err != nil || live != (r.Live/(1<<n)%2 == 1) {
				t.Fatalf("Next(%x, true, %d): %v, %v", r, n, live, err)
			}
		}
	}
}

// RU2: what the words tell at sight of one rule.
func TestNextKnown(t *testing.T) {
	r := Rule{Born: 8, Live: 12}
	for n := range 9 {
		if born, err := Next(r, false, n); err != nil || born != (n == 3) {
			t.Errorf("born of %d: %v, %v", n, born, err)
		}
		if live, err := Next(r, true, n); err != nil || live != (n == 2 || n == 3) {
			t.Errorf("lives on with %d: %v, %v", n, live, err)
		}
	}
	last := Rule{Born: 1 << 8, Live: 1}
	for _, k := range []struct {
		lives bool
		n     int
		want  bool
	}{{false, 8, true}, {false, 0, false}, {true, 8, false}, {true, 0, true}} {
		if got, err := Next(last, k.lives, k.n); err != nil || got != k.want {
			t.Errorf("Next of B8/S0, %v, %d: %v, %v", k.lives, k.n, got, err)
		}
	}
}

// noNumbers are no numbers of neighbours; cut to fewer bits, or counted from the other end, some of them were.
var noNumbers = []int{-1, 9, -2, -8, -9, 10, 15, 16, 17, 31, 32, 63, 64, 65, 67, 256, 256 + 3, 1 << 16, 1<<16 + 3, 1 << 32, 1<<32 + 3, math.MaxInt, math.MinInt, math.MinInt + 3}

// RU2: no number of neighbours is below 0 or above 8; not for a cell that lives, nor for one that does not.
func TestNextNoNumber(t *testing.T) {
	for _, r := range []Rule{{}, {8, 12}, {0x1fe, 0}, {0, 0x1ff}, {0x1fe, 0x1ff}} {
		for _, lives := range []bool{false, true} {
			for _, n := range noNumbers {
				if got, err := Next(r, lives, n); got || !isError(err, api.ErrArg) {
					t.Errorf("Next(%x, %v, %d): %v, %v", r, lives, n, got, err)
				}
			}
		}
	}
}

// RU2: a rule that may not be is told first, and nothing beside it, whatever its bits are and the number is.
func TestNextWrongRule(t *testing.T) {
	for _, r := range wrong() {
		for _, lives := range []bool{false, true} {
			for n := range 9 {
				if got, err := Next(r, lives, n); got || !isError(err, api.ErrRule) {
					t.Errorf("Next(%x, %v, %d): %v, %v", r, lives, n, got, err)
				}
			}
			for _, n := range noNumbers {
				if got, err := Next(r, lives, n); got || !isError(err, api.ErrRule) {
					t.Errorf("Next(%x, %v, %d): %v, %v", r, lives, n, got, err)
				}
			}
		}
	}
}

// RU3: nothing is born of nothing, by any rule that may be; and one by which it were can neither be read nor told.
func TestNothingOfNothing(t *testing.T) {
	for r := range eachThatMayBe {
		if born, err := Next(r, false, 0); born || err != nil {
			t.Fatalf("Next(%x, false, 0): %v, %v", r, born, err)
		}
		bad := Rule{r.Born | 1, r.Live}
		if err := Check(bad); !isError(err, api.ErrRule) {
			t.Fatalf("Check(%x): %v", bad, err)
		}
		if born, err := Next(bad, false, 0); born || !isError(err, api.ErrRule) {
			t.Fatalf("Next(%x, false, 0): %v, %v", bad, born, err)
		}
		if s, err := Text(bad); s != "" || !isError(err, api.ErrRule) {
			t.Fatalf("Text(%x): %q, %v", bad, s, err)
		}
	}
}
