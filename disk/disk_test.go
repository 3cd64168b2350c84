package disk

import (
	"bytes"
	"errors"
	"math"
	"slices"
	"testing"

	"quilt/api"
	"quilt/chance"
)

// full is a sector of one byte, over and over.
func full(x byte) []byte { return bytes.Repeat([]byte{x}, 512) }

func made(t *testing.T, n int) *Disk {
	t.Helper()
	d, err := New(n)
	if err != nil || d == nil {
		t.Fatalf("New(%d): %v, %v", n, d, err)
	}
	return d
}

func write(t *testing.T, d *Disk, i int, b []byte) {
	t.Helper()
	if err := d.Write(i, b); err != nil {
		t.Fatalf("Write(%d): %v", i, err)
	}
}

// done is for calls that must not fail.
func done(t *testing.T, what string, err error) {
	t.Helper()
	if err != nil {
		t.Fatalf("%s: %v", what, err)
	}
}

func fails(t *testing.T, what string, err error, want api.Errno) {
	t.Helper()
	var number api.Errno
	if !errors.As(err, &number) || number != want {
		t.Errorf("%s: %v, want %v", what, err, want)
	}
}

func isThere(t *testing.T, d *Disk, i int, want []byte) {
	t.Helper()
	got, err := d.Read(i)
	if err != nil || !bytes.Equal(got, want) {
		t.Errorf("Read(%d): %x, %v, want %x", i, got, err, want)
	}
}

func arePending(t *testing.T, d *Disk, want ...int) {
	t.Helper()
	if got := d.Pending(); !slices.Equal(got, want) {
		t.Errorf("Pending: %v, want %v", got, want)
	}
}

func areWrites(t *testing.T, d *Disk, want int) {
	t.Helper()
	if got := d.Writes(); got != want {
		t.Errorf("Writes: %d, want %d", got, want)
	}
}

// DK1: so many sectors of noughts, from 1 to MaxSectors.
func TestNew(t *testing.T) {
	for _, n := range []int{1, 2, 3, 100, api.MaxSectors - 1, api.MaxSectors} {
		d := made(t, n)
		if d.Size() != n {
			t.Errorf("New(%d): Size %d", n, d.Size())
		}
		for _, i := range []int{0, n / 2, n - 1} {
			isThere(t, d, i, full(0))
		}
		arePending(t, d)
		areWrites(t, d, 0)
	}
	for _, n := range []int{0, -1, -512, math.MinInt, api.MaxSectors + 1, 2 * api.MaxSectors, 1 << 40, math.MaxInt} {
		d, err := New(n)
		fails(t, "New", err, api.ErrArg)
		if d != nil {
			t.Errorf("New(%d): a Disk beside the error", n)
		}
	}
}

// DK1: a sector is what was written last, sure or not; all others stay.
func TestWriteRead(t *testing.T) {
	c := chance.Chance(1)
	d := made(t, 5)
	is := [][]byte{full(0), full(0), full(0), full(0), full(0)}
	for n := range 200 {
		i := c.Below(5)
		is[i] = c.Bytes(512)
		write(t, d, i, is[i])
		areWrites(t, d, n+1)
		if c.Below(4) == 0 {
			done(t, "Flush", d.Flush())
		}
		for i, b := range is {
			isThere(t, d, i, b)
		}
	}
	if d.Size() != 5 {
		t.Errorf("Size: %d", d.Size())
	}
}

// DK1: the last sector there may be is one like others.
func TestLastSector(t *testing.T) {
	d := made(t, api.MaxSectors)
	write(t, d, api.MaxSectors-1, full(7))
	isThere(t, d, api.MaxSectors-1, full(7))
	isThere(t, d, api.MaxSectors-2, full(0))
	arePending(t, d, api.MaxSectors-1)
}

// DK1: no such sector, not just 512 bytes, no more writes: in this order, and nothing is done.
func TestWriteErrors(t *testing.T) {
	wrong := []int{-1, 2, 3, api.MaxSectors, math.MinInt, math.MaxInt}
	lengths := []int{0, 1, 511, 513, 1024}
	for _, limit := range []int{-1, 0, 1} {
		d := made(t, 2)
		write(t, d, 0, full(1))
		done(t, "Flush", d.Flush())
		done(t, "Limit", d.Limit(limit))
		for _, i := range wrong {
			for _, n := range append(lengths, 512) {
				fails(t, "Write of no such sector", d.Write(i, make([]byte, n)), api.ErrRange)
			}
			fails(t, "Write of no such sector", d.Write(i, nil), api.ErrRange)
			b, err := d.Read(i)
			fails(t, "Read of no such sector", err, api.ErrRange)
			if len(b) != 0 {
				t.Errorf("Read(%d): bytes beside the error", i)
			}
		}
		for _, n := range lengths {
			fails(t, "Write of too few or too many", d.Write(0, make([]byte, n)), api.ErrLong)
		}
		fails(t, "Write of nil", d.Write(1, nil), api.ErrLong)
		if limit == 0 {
			fails(t, "Write beyond the limit", d.Write(1, full(3)), api.ErrFull)
		}
		areWrites(t, d, 1)
		arePending(t, d)
		isThere(t, d, 0, full(1))
		isThere(t, d, 1, full(0))
		if limit == 1 { // what failed is not taken off
			write(t, d, 1, full(3))
			fails(t, "Write beyond the limit", d.Write(1, full(4)), api.ErrFull)
			isThere(t, d, 1, full(3))
		}
	}
}

// DK1: pending are those written behind the last Flush, in the order of their first writes, each once.
func TestPending(t *testing.T) {
	d := made(t, 6)
	for _, i := range []int{4, 1, 4, 5, 1, 0, 4} {
		write(t, d, i, full(byte(i)))
	}
	arePending(t, d, 4, 1, 5, 0)
	arePending(t, d, 4, 1, 5, 0)
	done(t, "Flush", d.Flush())
	arePending(t, d)
	write(t, d, 1, full(1)) // the bytes that it had are a write as any others
	arePending(t, d, 1)
	write(t, d, 4, full(0))
	arePending(t, d, 1, 4)
	done(t, "Crash", d.Crash([]int{1}, -1, 0))
	arePending(t, d)
	write(t, d, 4, full(9))
	write(t, d, 1, full(9))
	arePending(t, d, 4, 1)
	areWrites(t, d, 11)
}

// DK1: a flush of nothing is one.
func TestFlushNothing(t *testing.T) {
	d := made(t, 1)
	done(t, "Flush", d.Flush())
	done(t, "Flush", d.Flush())
	isThere(t, d, 0, full(0))
	areWrites(t, d, 0)
	arePending(t, d)
}

// DK2: Limit(n) lets n more be done, whatever was let before; below 0 all.
func TestLimit(t *testing.T) {
	d := made(t, 3)
	writes := 0
	for _, n := range []int{0, 1, 2, 5, 0, 3} {
		done(t, "Limit", d.Limit(n))
		for range n {
			write(t, d, writes%3, full(byte(writes)))
			writes++
		}
		areWrites(t, d, writes)
		for range 3 {
			fails(t, "Write beyond the limit", d.Write(2, full(0xee)), api.ErrFull)
		}
		done(t, "Flush", d.Flush()) // neither a flush, nor reading, gives more
		_, err := d.Read(0)
		done(t, "Read", err)
		fails(t, "Write beyond the limit", d.Write(2, full(0xee)), api.ErrFull)
		areWrites(t, d, writes)
	}
	for _, n := range []int{-1, -2, math.MinInt, math.MaxInt} {
		done(t, "Limit", d.Limit(0))
		done(t, "Limit", d.Limit(n))
		for range 20 {
			write(t, d, 1, full(1))
		}
	}
	done(t, "Limit", d.Limit(9))
	done(t, "Limit", d.Limit(1))
	write(t, d, 0, full(2))
	fails(t, "Write beyond the later limit", d.Write(0, full(3)), api.ErrFull)
}

// DK2: a crash lifts the limit; one that can't be does not.
func TestLimitBehindCrash(t *testing.T) {
	d := made(t, 1)
	done(t, "Limit", d.Limit(1))
	write(t, d, 0, full(1))
	fails(t, "Crash", d.Crash([]int{1}, -1, 0), api.ErrArg)
	fails(t, "Write beyond the limit", d.Write(0, full(2)), api.ErrFull)
	done(t, "Crash", d.Crash(nil, -1, 0))
	for range 20 {
		write(t, d, 0, full(3))
	}
	areWrites(t, d, 21)
}

// A nil Disk: ErrArg, and nothing.
func TestNil(t *testing.T) {
	var d *Disk
	if d.Size() != 0 || d.Pending() != nil || d.Writes() != 0 {
		t.Error("a nil Disk has something")
	}
	for _, i := range []int{-1, 0, 1} {
		for _, b := range [][]byte{nil, full(1)} {
			fails(t, "Write", d.Write(i, b), api.ErrArg)
		}
		b, err := d.Read(i)
		fails(t, "Read", err, api.ErrArg)
		if len(b) != 0 {
			t.Error("a nil Disk has bytes")
		}
		fails(t, "Rot", d.Rot(i, i, 1), api.ErrArg)
		fails(t, "Limit", d.Limit(i), api.ErrArg)
		fails(t, "Crash", d.Crash(nil, i, 0), api.ErrArg)
		fails(t, "Crash", d.Crash([]int{0}, i, 513), api.ErrArg)
	}
	fails(t, "Flush", d.Flush(), api.ErrArg)
}

// Rule 3: what is handed in stays as it is, its spare room too, and is not kept.
func TestHandedInStays(t *testing.T) {
	c := chance.Chance(2)
	d := made(t, 4)
	whole := c.Bytes(600)
	before := slices.Clone(whole)
	for i := range 4 {
		write(t, d, i, whole[:512])
		if !bytes.Equal(whole, before) {
			t.Fatal("Write changed what it was given")
		}
	}
	write(t, d, 0, whole[:512])
	for i := range whole {
		whole[i] ^= 0xff
	}
	for i := range 4 {
		isThere(t, d, i, before[:512])
	}
	keep := []int{2, 0, 3, 77, 78}
	done(t, "Rot", d.Rot(1, 1, 1))
	done(t, "Crash", d.Crash(keep[:3], 1, 5))
	if !slices.Equal(keep, []int{2, 0, 3, 77, 78}) {
		t.Errorf("Crash changed what it was given: %v", keep)
	}
	for i := range 2 {
		write(t, d, i, full(1))
	}
	fails(t, "Crash", d.Crash(keep[:3], -1, 0), api.ErrArg)
	if !slices.Equal(keep, []int{2, 0, 3, 77, 78}) {
		t.Errorf("a Crash that failed changed what it was given: %v", keep)
	}
}

// Rule 3: an answer shares no memory with the Disk, nor with another answer, spare room too.
func TestAnswersApart(t *testing.T) {
	c := chance.Chance(3)
	d := made(t, 3)
	sure, now := c.Bytes(512), c.Bytes(512)
	write(t, d, 0, sure)
	done(t, "Flush", d.Flush())
	for _, i := range []int{1, 2} {
		write(t, d, i, now)
	}
	is := [][]byte{sure, now, now}
	for i, want := range is {
		one, err := d.Read(i)
		done(t, "Read", err)
		other, err := d.Read(i)
		done(t, "Read", err)
		one = one[:cap(one)]
		for at := range one {
			one[at] ^= 0xff
		}
		if !bytes.Equal(other, want) {
			t.Errorf("two answers of Read(%d) share memory", i)
		}
		for i, want := range is {
			isThere(t, d, i, want)
		}
	}
	one, other := d.Pending(), d.Pending()
	one = one[:cap(one)]
	for i := range one {
		one[i] = 0
	}
	if !slices.Equal(other, []int{1, 2}) {
		t.Error("two answers of Pending share memory")
	}
	arePending(t, d, 1, 2)
	write(t, d, 0, now)
	if !slices.Equal(other, []int{1, 2}) {
		t.Error("an answer of Pending changed behind it")
	}
	arePending(t, d, 1, 2, 0)
}
