package pool

import (
	"slices"
	"testing"

	"quilt/api"
	"quilt/disk"
)

func arePending(t *testing.T, d *disk.Disk, want ...int) {
	t.Helper()
	if got := d.Pending(); !slices.Equal(got, want) {
		t.Errorf("pending on the disk: %v, want %v", got, want)
	}
}

func areWrites(t *testing.T, d *disk.Disk, want int) {
	t.Helper()
	if got := d.Writes(); got != want {
		t.Errorf("%d writes to the disk, want %d", got, want)
	}
}

// PO2: all that was laid is on the disk, and sure; the frames stay as they are but for that.
func TestFlush(t *testing.T) {
	p, d := made(t, 6, 4)
	for _, i := range []int{4, 1, 5} {
		lays(t, p, i, good(byte(10+i)))
	}
	reads(t, p, 2, good(2))
	done(t, "Pin", p.Pin(1))
	areDirty(t, p, 0, 1, 2)
	done(t, "Flush", p.Flush())
	areFrames(t, p, 4, 1, 5, 2)
	areDirty(t, p)
	areLoads(t, p, 1)
	areWrites(t, d, 6+3)
	arePending(t, d)
	done(t, "Flush", p.Flush()) // nothing is dirty
	areWrites(t, d, 6+3)
	lays(t, p, 1, good(21))
	areDirty(t, p, 1)
	onDisk(t, d, 1, good(11))
	done(t, "Crash", d.Crash(nil, -1, 0))
	p = pooled(t, d, 2)
	for i, want := range [][]byte{good(0), good(11), good(2), good(3), good(14), good(15)} {
		reads(t, p, i, want)
	}
}

// PO2: what was written for another sector is not sure till a Flush, which makes sure of it too.
func TestFlushBehindHand(t *testing.T) {
	for _, flushed := range []bool{false, true} {
		p, d := made(t, 4, 1)
		lays(t, p, 0, good(10))
		reads(t, p, 1, good(1))
		areDirty(t, p)
		arePending(t, d, 0)
		if flushed {
			done(t, "Limit", d.Limit(0)) // no write is left, none is needed
			done(t, "Flush", p.Flush())
			arePending(t, d)
		}
		done(t, "Crash", d.Crash(nil, -1, 0))
		p = pooled(t, d, 1)
		if flushed {
			reads(t, p, 0, good(10))
		} else {
			reads(t, p, 0, good(0))
		}
	}
}

// PO2: a Flush leaves what was used, and held, and the hand.
func TestFlushLeavesHand(t *testing.T) {
	p, _ := made(t, 8, 3)
	readAll(t, p, 0, 1, 2, 3) // the hand is at frame 1, which is not used
	lays(t, p, 3, good(3))
	lays(t, p, 2, good(2))
	done(t, "Pin", p.Pin(2))
	done(t, "Flush", p.Flush())
	readAll(t, p, 4)
	areFrames(t, p, 3, 4, 2)
	readAll(t, p, 5)
	areFrames(t, p, 5, 4, 2)
	readAll(t, p, 6)
	areFrames(t, p, 5, 6, 2)
	done(t, "Unpin", p.Unpin(2))
	fails(t, "Unpin once more", p.Unpin(2), api.ErrNone)
}

// PO2: no writes left half way: the frames are written from 0 on, the first that is not and those behind stay dirty, and nothing is made sure of; again when there are some, and only those are written.
func TestFlushFull(t *testing.T) {
	for limit := range 4 {
		p, d := made(t, 8, 6)
		reads(t, p, 7, good(7))
		lays(t, p, 6, good(16))
		lays(t, p, 0, good(10))
		reads(t, p, 2, good(2))
		lays(t, p, 5, good(15))
		lays(t, p, 3, good(13))
		done(t, "Limit", d.Limit(limit))
		for range 2 {
			fails(t, "Flush with too few writes left", p.Flush(), api.ErrFull)
			areFrames(t, p, 7, 6, 0, 2, 5, 3)
			areDirty(t, p, []int{1, 2, 4, 5}[limit:]...)
			arePending(t, d, []int{6, 0, 5, 3}[:limit]...)
			areWrites(t, d, 8+limit)
		}
		reads(t, p, 3, good(13))
		if limit == 2 {
			lays(t, p, 6, good(26)) // what was written already is laid anew
			done(t, "Limit", d.Limit(2))
			fails(t, "Flush with too few writes left", p.Flush(), api.ErrFull)
			areDirty(t, p, 5)
			done(t, "Limit", d.Limit(1))
			done(t, "Flush", p.Flush())
			areWrites(t, d, 8+5)
			onDisk(t, d, 6, good(26))
		} else {
			done(t, "Limit", d.Limit(4-limit))
			done(t, "Flush", p.Flush())
			areWrites(t, d, 8+4)
			onDisk(t, d, 6, good(16))
		}
		areDirty(t, p)
		arePending(t, d)
		areFrames(t, p, 7, 6, 0, 2, 5, 3)
		for _, i := range []int{0, 3, 5} {
			onDisk(t, d, i, good(byte(10+i)))
		}
	}
}

// PO2: Loads counts what was read from the disk, good or not, whether a frame was found or not.
func TestLoads(t *testing.T) {
	p, d := made(t, 5, 1)
	lays(t, p, 0, good(0))
	areLoads(t, p, 0)
	done(t, "Pin", p.Pin(0))
	areLoads(t, p, 0)
	cannotRead(t, "a sector more", p, 1, api.ErrPins)
	areLoads(t, p, 2)
	done(t, "Unpin", p.Unpin(0))
	done(t, "Limit", d.Limit(0))
	cannotRead(t, "a sector more with no writes left", p, 1, api.ErrFull)
	areLoads(t, p, 4)
	done(t, "Limit", d.Limit(-1))
	done(t, "Rot", d.Rot(3, 0, 1))
	cannotRead(t, "a sector that rots", p, 3, api.ErrSum)
	areLoads(t, p, 6)
	for n := range 3 { // by turns, in one frame
		reads(t, p, 1, good(1))
		reads(t, p, 2, good(2))
		areLoads(t, p, 8+2*n)
	}
	cannotRead(t, "no such sector", p, 5, api.ErrRange)
	fails(t, "Unpin", p.Unpin(4), api.ErrNone)
	done(t, "Flush", p.Flush())
	p.Frames()
	areLoads(t, p, 12)
}
