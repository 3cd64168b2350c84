package pool

import (
	"bytes"
	"errors"
	"math"
	"slices"
	"testing"

	"quilt/api"
	"quilt/chance"
	"quilt/disk"
	"quilt/sum"
)

// outside are no sectors of a disk of so many.
func outside(sectors int) []int {
	return []int{-1, sectors, sectors + 1, api.MaxSectors, math.MinInt, math.MaxInt}
}

// good is a sector whose sum is good, of one byte over and over.
func good(x byte) []byte { return marked(bytes.Repeat([]byte{x}, 512)) }

// marked is bytes with their sum in the place of the last four.
func marked(b []byte) []byte {
	m, err := sum.Mark(b)
	if err != nil {
		panic(err)
	}
	return m
}

// disked is a disk of so many sectors, sector i of which is good(i).
func disked(t *testing.T, sectors int) *disk.Disk {
	t.Helper()
	d, err := disk.New(sectors)
	done(t, "disk.New", err)
	for i := range sectors {
		done(t, "Write of the disk", d.Write(i, good(byte(i))))
	}
	done(t, "Flush of the disk", d.Flush())
	return d
}

func pooled(t *testing.T, d *disk.Disk, frames int) *Pool {
	t.Helper()
	p, err := New(d, frames)
	if err != nil || p == nil {
		t.Fatalf("New of %d frames: %v, %v", frames, p, err)
	}
	return p
}

// made is a pool of so many frames, and its disk of so many sectors.
func made(t *testing.T, sectors, frames int) (*Pool, *disk.Disk) {
	t.Helper()
	d := disked(t, sectors)
	return pooled(t, d, frames), d
}

// done is for calls that must not fail.
func done(t *testing.T, what string, err error) {
	t.Helper()
	if err != nil {
		t.Fatalf("%s: %v", what, err)
	}
}

func fails(t *testing.T, what string, err error, want api.Errno) {
	t.Helper()
	var number api.Errno
	if !errors.As(err, &number) || number != want {
		t.Errorf("%s: %v, want %v", what, err, want)
	}
}

// cannotRead is for sectors that neither Read nor Pin has.
func cannotRead(t *testing.T, what string, p *Pool, i int, want api.Errno) {
	t.Helper()
	b, err := p.Read(i)
	fails(t, "Read of "+what, err, want)
	if len(b) != 0 {
		t.Errorf("Read of %s: bytes beside the error", what)
	}
	fails(t, "Pin of "+what, p.Pin(i), want)
}

func reads(t *testing.T, p *Pool, i int, want []byte) {
	t.Helper()
	got, err := p.Read(i)
	if err != nil || !bytes.Equal(got, want) {
		t.Errorf("Read(%d): %x, %v, want %x", i, got, err, want)
	}
}

func lays(t *testing.T, p *Pool, i int, b []byte) {
	t.Helper()
	if err := p.Write(i, b); err != nil {
		t.Fatalf("Write(%d): %v", i, err)
	}
}

func areFrames(t *testing.T, p *Pool, want ...int) {
	t.Helper()
	if got := p.Frames(); !slices.Equal(got, want) {
		t.Errorf("Frames: %v, want %v", got, want)
	}
}

func areDirty(t *testing.T, p *Pool, want ...int) {
	t.Helper()
	if got := p.Dirty(); !slices.Equal(got, want) {
		t.Errorf("Dirty: %v, want %v", got, want)
	}
}

func areLoads(t *testing.T, p *Pool, want int) {
	t.Helper()
	if got := p.Loads(); got != want {
		t.Errorf("Loads: %d, want %d", got, want)
	}
}

// onDisk is what a disk has, whatever its pool does.
func onDisk(t *testing.T, d *disk.Disk, i int, want []byte) {
	t.Helper()
	got, err := d.Read(i)
	if err != nil || !bytes.Equal(got, want) {
		t.Errorf("on the disk %d: %x, %v, want %x", i, got, err, want)
	}
}

// The chapter's example.
func TestExample(t *testing.T) {
	p, d := made(t, 2, 1)
	lays(t, p, 0, good(10))
	onDisk(t, d, 0, good(0))
	lays(t, p, 1, good(11))
	onDisk(t, d, 0, good(10))
	onDisk(t, d, 1, good(1))
	areFrames(t, p, 1)
	areDirty(t, p, 0)
}

// PO1: from 1 to 1,024 frames, all empty, and nothing is done to the disk.
func TestNew(t *testing.T) {
	for _, frames := range []int{1, 2, 3, 1023, 1024} {
		p, d := made(t, 3, frames)
		areFrames(t, p, slices.Repeat([]int{-1}, frames)...)
		areDirty(t, p)
		areLoads(t, p, 0)
		if d.Writes() != 3 || len(d.Pending()) != 0 {
			t.Error("New writes to the disk")
		}
	}
	d := disked(t, 3)
	for _, frames := range []int{math.MinInt, -1024, -1, 0, 1025, 2048, math.MaxInt} {
		for _, d := range []*disk.Disk{d, nil} {
			p, err := New(d, frames)
			fails(t, "New of too few or too many frames", err, api.ErrArg)
			if p != nil {
				t.Error("a Pool beside the error")
			}
		}
	}
	for _, frames := range []int{1, 2, 1024} {
		p, err := New(nil, frames)
		fails(t, "New of a nil disk", err, api.ErrArg)
		if p != nil {
			t.Error("a Pool beside the error")
		}
	}
}

// PO1: a sector is read from the disk where no frame holds it, and into the lowest empty frame.
func TestRead(t *testing.T) {
	p, d := made(t, 5, 4)
	for n, i := range []int{4, 0, 2} { // the last, the first
		reads(t, p, i, good(byte(i)))
		areLoads(t, p, n+1)
		reads(t, p, i, good(byte(i)))
		done(t, "Pin", p.Pin(i))
		areLoads(t, p, n+1)
	}
	areFrames(t, p, 4, 0, 2, -1)
	areDirty(t, p)
	done(t, "Rot", d.Rot(0, 7, 1)) // of what is at hand the disk is not asked
	reads(t, p, 0, good(0))
	areLoads(t, p, 3)
	done(t, "Pin", p.Pin(3))
	areFrames(t, p, 4, 0, 2, 3)
	areLoads(t, p, 4)
	reads(t, p, 3, good(3))
	if d.Writes() != 5 {
		t.Error("reading writes to the disk")
	}
}

// PO1: as many sectors and frames as there may be; fewer sectors than frames.
func TestMany(t *testing.T) {
	p, _ := made(t, api.MaxSectors, 1024)
	for _, i := range []int{api.MaxSectors - 1, 0, 1 << 13} {
		reads(t, p, i, good(byte(i)))
	}
	lays(t, p, api.MaxSectors-1, good(77))
	for i := range api.MaxSectors {
		if i > 0 && i != 1<<13 && i != api.MaxSectors-1 {
			reads(t, p, i, good(byte(i)))
		}
	}
	areLoads(t, p, api.MaxSectors)
	reads(t, p, api.MaxSectors-1, good(77))
	if frames := p.Frames(); len(frames) != 1024 || slices.Contains(frames, -1) {
		t.Errorf("%d frames, or empty ones", len(frames))
	}

	p, _ = made(t, 2, 4)
	for range 3 {
		reads(t, p, 1, good(1))
		reads(t, p, 0, good(0))
	}
	areFrames(t, p, 1, 0, -1, -1)
	areLoads(t, p, 2)
}

// PO1: no such sector, whatever else is wrong; nothing is loaded.
func TestOutside(t *testing.T) {
	p, d := made(t, 3, 1)
	done(t, "Pin", p.Pin(0)) // all are held
	done(t, "Limit", d.Limit(0))
	for _, i := range outside(3) {
		cannotRead(t, "no such sector", p, i, api.ErrRange)
		fails(t, "Unpin of no such sector", p.Unpin(i), api.ErrRange)
		for _, b := range [][]byte{nil, make([]byte, 511), make([]byte, 512), make([]byte, 513), good(1)} {
			fails(t, "Write of no such sector", p.Write(i, b), api.ErrRange)
		}
	}
	areLoads(t, p, 1)
	areFrames(t, p, 0)
	areDirty(t, p)
}

// PO1: what is not good on the disk is not read, and takes no frame; it is asked for again each time.
func TestReadNotGood(t *testing.T) {
	p, d := made(t, 4, 2)
	reads(t, p, 1, good(1))
	for _, i := range []int{0, 3} {
		done(t, "Rot", d.Rot(i, 511, 0x80))
	}
	areLoads(t, p, 1)
	cannotRead(t, "a sector that rots", p, 0, api.ErrSum)
	areLoads(t, p, 3)
	cannotRead(t, "a sector that rots", p, 3, api.ErrSum)
	areLoads(t, p, 5)
	areFrames(t, p, 1, -1)
	fails(t, "Unpin of what could not be held", p.Unpin(0), api.ErrNone)

	done(t, "Rot", d.Rot(0, 511, 0x80)) // it is back
	reads(t, p, 0, good(0))
	areLoads(t, p, 6)
	areFrames(t, p, 1, 0)

	fresh, err := disk.New(2)
	done(t, "disk.New", err)
	p = pooled(t, fresh, 1)
	cannotRead(t, "noughts", p, 1, api.ErrSum)
	lays(t, p, 1, good(9)) // it need not be good to be laid
	reads(t, p, 1, good(9))
	areLoads(t, p, 2)
}

// PO1: to lay a sector nothing is read, nor written to the disk.
func TestWrite(t *testing.T) {
	p, d := made(t, 5, 3)
	lays(t, p, 4, good(40))
	lays(t, p, 0, good(41))
	reads(t, p, 2, good(2))
	areFrames(t, p, 4, 0, 2)
	areDirty(t, p, 0, 1)
	areLoads(t, p, 1)
	lays(t, p, 2, good(42)) // over what was read
	lays(t, p, 4, good(43)) // over what was laid
	lays(t, p, 0, good(0))  // what the disk has is laid as any other
	areFrames(t, p, 4, 0, 2)
	areDirty(t, p, 0, 1, 2)
	for i, want := range map[int][]byte{4: good(43), 0: good(0), 2: good(42)} {
		reads(t, p, i, want)
		onDisk(t, d, i, good(byte(i)))
	}
	areLoads(t, p, 1)
	if d.Writes() != 5 {
		t.Error("what is laid is written to the disk at once")
	}
}

// PO1: not just 512 bytes, bytes that are not good, in this order, ahead of all that has to do with frames; nothing is laid.
func TestWriteErrors(t *testing.T) {
	c := chance.Chance(1)
	p, d := made(t, 3, 1)
	lays(t, p, 0, good(50))
	done(t, "Limit", d.Limit(0))
	wrong := func() {
		t.Helper()
		for i := range 3 {
			for _, n := range []int{0, 1, 4, 508, 511, 513, 1024} {
				fails(t, "Write of too few or too many", p.Write(i, c.Bytes(n)), api.ErrLong)
				if n >= 4 {
					fails(t, "Write of too few or too many that are good", p.Write(i, marked(c.Bytes(n))), api.ErrLong)
				}
			}
			fails(t, "Write of nil", p.Write(i, nil), api.ErrLong)
			fails(t, "Write of noughts", p.Write(i, make([]byte, 512)), api.ErrSum)
			fails(t, "Write of what is not good", p.Write(i, c.Bytes(512)), api.ErrSum)
			for _, at := range []int{0, 256, 507, 508, 511} {
				b := good(51)
				b[at] ^= 4
				fails(t, "Write of what rots", p.Write(i, b), api.ErrSum)
			}
		}
		areFrames(t, p, 0)
		areDirty(t, p, 0)
		reads(t, p, 0, good(50))
	}
	wrong()
	done(t, "Pin", p.Pin(0))
	wrong()
	areLoads(t, p, 0)
}

// PO1: a sector that is held twice, and let go three times; the third is one too many.
func TestPinTwice(t *testing.T) {
	p, _ := made(t, 3, 1)
	done(t, "Pin", p.Pin(0))
	done(t, "Pin", p.Pin(0))
	for range 2 {
		cannotRead(t, "a sector beside one that is held", p, 1, api.ErrPins)
		fails(t, "Write beside one that is held", p.Write(2, good(60)), api.ErrPins)
		done(t, "Unpin", p.Unpin(0))
	}
	fails(t, "Unpin once more", p.Unpin(0), api.ErrNone)
	areFrames(t, p, 0)
	areLoads(t, p, 5)
	reads(t, p, 1, good(1))
	areFrames(t, p, 1)
}

// PO1: what no frame holds, or is not held, can't be let go; a sector that comes in anew is not held.
func TestUnpin(t *testing.T) {
	p, _ := made(t, 4, 2)
	fails(t, "Unpin of nothing", p.Unpin(0), api.ErrNone)
	reads(t, p, 0, good(0))
	fails(t, "Unpin of what was read", p.Unpin(0), api.ErrNone)
	lays(t, p, 1, good(1))
	fails(t, "Unpin of what was laid", p.Unpin(1), api.ErrNone)
	fails(t, "Unpin of what is on the disk", p.Unpin(3), api.ErrNone)
	done(t, "Pin", p.Pin(1))
	fails(t, "Unpin of another", p.Unpin(0), api.ErrNone)
	done(t, "Unpin", p.Unpin(1))
	for _, i := range []int{2, 3} { // both frames change hands
		reads(t, p, i, good(byte(i)))
	}
	for i := range 4 {
		fails(t, "Unpin of what is not held", p.Unpin(i), api.ErrNone)
	}
	areFrames(t, p, 2, 3)
	areLoads(t, p, 3)
}

// PO1: where all frames are held there is none for another sector; those that are held can be read, laid, and held all the same.
func TestAllHeld(t *testing.T) {
	p, d := made(t, 5, 3)
	for i := range 3 {
		done(t, "Pin", p.Pin(i))
	}
	lays(t, p, 1, good(70))
	done(t, "Rot", d.Rot(4, 0, 1))
	cannotRead(t, "a sector more", p, 3, api.ErrPins)
	areLoads(t, p, 5) // it is read ahead of the frame
	cannotRead(t, "a sector more that rots", p, 4, api.ErrSum)
	areLoads(t, p, 7)
	done(t, "Limit", d.Limit(0))
	fails(t, "Write of a sector more", p.Write(3, good(71)), api.ErrPins)
	areFrames(t, p, 0, 1, 2)
	areDirty(t, p, 1)
	reads(t, p, 0, good(0))
	lays(t, p, 2, good(72))
	done(t, "Pin", p.Pin(1))
	areFrames(t, p, 0, 1, 2)
	areDirty(t, p, 1, 2)
	areLoads(t, p, 7)
	fails(t, "Unpin of what found no frame", p.Unpin(3), api.ErrNone)
	done(t, "Limit", d.Limit(-1))
	done(t, "Unpin", p.Unpin(2)) // laid while it was held, it gives way now
	reads(t, p, 3, good(3))
	areFrames(t, p, 0, 1, 3)
	onDisk(t, d, 2, good(72))
	onDisk(t, d, 1, good(1))
}

// A nil Pool: ErrArg, and nothing.
func TestNil(t *testing.T) {
	var p *Pool
	for _, i := range []int{-1, 0, 1, math.MaxInt} {
		cannotRead(t, "a nil Pool", p, i, api.ErrArg)
		fails(t, "Unpin", p.Unpin(i), api.ErrArg)
		for _, b := range [][]byte{nil, make([]byte, 511), make([]byte, 512), good(1)} {
			fails(t, "Write", p.Write(i, b), api.ErrArg)
		}
	}
	fails(t, "Flush", p.Flush(), api.ErrArg)
	if len(p.Frames()) != 0 || len(p.Dirty()) != 0 || p.Loads() != 0 {
		t.Error("a nil Pool has something")
	}
}

// spoil writes over a list of bytes and all its spare room.
func spoil(b []byte) {
	b = b[:cap(b)]
	for i := range b {
		b[i] ^= 0xff
	}
}

// Rule 3: what is laid is not changed, its spare room neither, and not kept.
func TestHandedInStays(t *testing.T) {
	p, d := made(t, 3, 2)
	whole := append(good(80), "spare"...)
	before := bytes.Clone(whole)
	for _, i := range []int{0, 0, 1, 2} { // an empty frame, one that holds it, and one that gives way
		lays(t, p, i, whole[:512])
	}
	fails(t, "Write of too many", p.Write(0, whole), api.ErrLong)
	whole[3] ^= 1
	fails(t, "Write of what is not good", p.Write(0, whole[:512]), api.ErrSum)
	whole[3] ^= 1
	done(t, "Flush", p.Flush())
	if !bytes.Equal(whole, before) {
		t.Error("what was laid is changed")
	}
	lays(t, p, 1, whole[:512])
	lays(t, p, 0, whole[:512])
	spoil(whole)
	for _, i := range []int{1, 0, 2} {
		reads(t, p, i, before[:512])
	}
	done(t, "Flush", p.Flush())
	for i := range 3 {
		onDisk(t, d, i, before[:512])
	}
}

// Rule 3: an answer shares no memory with the pool, its disk, or another answer, spare room too.
func TestAnswersApart(t *testing.T) {
	p, d := made(t, 4, 3)
	lays(t, p, 1, good(90))
	lays(t, p, 2, good(92))
	for i, want := range [][]byte{good(0), good(90), good(92)} {
		one, err := p.Read(i) // what was loaded just now, too
		done(t, "Read", err)
		other, err := p.Read(i)
		done(t, "Read", err)
		spoil(one)
		if !bytes.Equal(other, want) {
			t.Errorf("two answers of Read(%d) share memory", i)
		}
		spoil(other)
		reads(t, p, i, want)
	}
	onDisk(t, d, 0, good(0))
	done(t, "Flush", p.Flush())
	onDisk(t, d, 1, good(90))
	lays(t, p, 1, good(91))
	lays(t, p, 2, good(93))
	for _, list := range []func() []int{p.Frames, p.Dirty} {
		one, other := list(), list()
		before := slices.Clone(other)
		one = one[:cap(one)]
		for i := range one {
			one[i] = 99
		}
		if !slices.Equal(other, before) || !slices.Equal(list(), before) {
			t.Error("two answers share memory, or one and the pool")
		}
	}
	frames, dirty := p.Frames(), p.Dirty()
	reads(t, p, 3, good(3))
	done(t, "Flush", p.Flush())
	if !slices.Equal(frames, []int{1, 2, 0}) || !slices.Equal(dirty, []int{0, 1}) {
		t.Errorf("an answer changes behind it: %v, %v", frames, dirty)
	}
}
