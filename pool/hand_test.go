package pool

import (
	"testing"

	"quilt/api"
)

// readAll reads sectors one by one.
func readAll(t *testing.T, p *Pool, sectors ...int) {
	t.Helper()
	for _, i := range sectors {
		reads(t, p, i, good(byte(i)))
	}
}

// PO1: frames that were used are passed over once, and the hand goes on behind the one that is taken.
func TestHandUsed(t *testing.T) {
	p, _ := made(t, 8, 3)
	readAll(t, p, 0, 1, 2)
	areFrames(t, p, 0, 1, 2)
	readAll(t, p, 3) // round once: all were used
	areFrames(t, p, 3, 1, 2)
	readAll(t, p, 1, 4) // 1 is used again, 2 is not
	areFrames(t, p, 3, 1, 4)
	readAll(t, p, 5) // 3 was used when it came in
	areFrames(t, p, 3, 5, 4)
	readAll(t, p, 6) // the hand was at the last frame
	areFrames(t, p, 6, 5, 4)
	areLoads(t, p, 7)
	readAll(t, p, 7, 0)
	areFrames(t, p, 6, 0, 7)
}

// PO1: a sector is used when it is read, laid, or held, and each time anew; not when it is let go.
func TestHandUsedBy(t *testing.T) {
	use := map[string]func(p *Pool) error{
		"Read": func(p *Pool) error {
			_, err := p.Read(1)
			return err
		},
		"Write": func(p *Pool) error { return p.Write(1, good(1)) },
		"Pin and Unpin": func(p *Pool) error {
			if err := p.Pin(1); err != nil {
				return err
			}
			return p.Unpin(1)
		},
	}
	for what, used := range use {
		t.Run(what, func(t *testing.T) {
			p, _ := made(t, 8, 3)
			readAll(t, p, 0, 1, 2, 3)
			done(t, what, used(p))
			readAll(t, p, 4)
			areFrames(t, p, 3, 1, 4)
		})
	}
	p, _ := made(t, 8, 3)
	readAll(t, p, 0)
	done(t, "Pin", p.Pin(1))
	readAll(t, p, 2, 3, 4) // 1 is held, 2 gives way
	areFrames(t, p, 3, 1, 4)
	readAll(t, p, 5) // all were used
	areFrames(t, p, 5, 1, 4)
	done(t, "Unpin", p.Unpin(1)) // and was used before it was held
	readAll(t, p, 6)
	areFrames(t, p, 5, 1, 6)
	readAll(t, p, 5, 7)
	areFrames(t, p, 5, 7, 6)
}

// PO1: a sector that comes in because it was laid, or held, was used as well.
func TestHandComesIn(t *testing.T) {
	p, _ := made(t, 8, 2)
	lays(t, p, 0, good(0))
	readAll(t, p, 1, 2) // 1 is not used any more
	areFrames(t, p, 2, 1)
	lays(t, p, 3, good(3))
	areFrames(t, p, 2, 3)
	readAll(t, p, 4)
	areFrames(t, p, 4, 3)
	done(t, "Pin", p.Pin(5))
	areFrames(t, p, 4, 5)
	done(t, "Unpin", p.Unpin(5))
	readAll(t, p, 6, 6)
	areFrames(t, p, 6, 5)
}

// PO1: a frame that is held is passed over, and what was used stays so.
func TestHandHeld(t *testing.T) {
	p, _ := made(t, 8, 3)
	done(t, "Pin", p.Pin(0))
	readAll(t, p, 1, 2, 3)
	areFrames(t, p, 0, 3, 2)
	readAll(t, p, 2)
	done(t, "Unpin", p.Unpin(0))
	readAll(t, p, 4)
	areFrames(t, p, 0, 3, 4)

	p, _ = made(t, 8, 3)
	readAll(t, p, 0)
	done(t, "Pin", p.Pin(1))
	done(t, "Pin", p.Pin(2))
	for i := 3; i < 8; i++ { // there is one that is not held
		readAll(t, p, i)
		areFrames(t, p, i, 1, 2)
	}
	readAll(t, p, 1, 2)
}

// PO1: where all are held, the hand and what was used stay as they are.
func TestHandAllHeld(t *testing.T) {
	p, _ := made(t, 8, 2)
	readAll(t, p, 0, 1, 2) // the hand is at frame 1, which is not used
	done(t, "Pin", p.Pin(2))
	done(t, "Pin", p.Pin(1))
	cannotRead(t, "a sector more", p, 3, api.ErrPins)
	done(t, "Unpin", p.Unpin(1))
	done(t, "Unpin", p.Unpin(2))
	readAll(t, p, 4) // both were used
	areFrames(t, p, 2, 4)
	readAll(t, p, 5)
	areFrames(t, p, 5, 4)

	p, _ = made(t, 8, 3)
	for i := range 3 {
		done(t, "Pin", p.Pin(i))
	}
	cannotRead(t, "a sector more", p, 3, api.ErrPins)
	for i := range 3 {
		done(t, "Unpin", p.Unpin(i))
	}
	readAll(t, p, 3, 4) // 1 is not used any more, since 3 came round
	areFrames(t, p, 3, 4, 2)
}

// PO1: a dirty frame's bytes are written to the disk when it is taken, a clean one's are not.
func TestHandDirty(t *testing.T) {
	p, d := made(t, 8, 3)
	lays(t, p, 0, good(100))
	readAll(t, p, 1)
	lays(t, p, 2, good(102))
	readAll(t, p, 3)
	areFrames(t, p, 3, 1, 2)
	areDirty(t, p, 2)
	onDisk(t, d, 0, good(100))
	readAll(t, p, 4)
	areFrames(t, p, 3, 4, 2)
	areDirty(t, p, 2)
	if d.Writes() != 8+1 {
		t.Errorf("%d writes to the disk, want %d", d.Writes(), 8+1)
	}
	onDisk(t, d, 2, good(2))
	lays(t, p, 5, good(105))
	areFrames(t, p, 3, 4, 5)
	areDirty(t, p, 2)
	onDisk(t, d, 2, good(102))
	if d.Writes() != 8+2 || len(d.Pending()) != 2 {
		t.Errorf("%d writes to the disk, pending %v", d.Writes(), d.Pending())
	}
	reads(t, p, 0, good(100))
	reads(t, p, 2, good(102))
	areDirty(t, p, 2)
	reads(t, p, 5, good(105))
}

// PO1: a held dirty frame is not written for another sector.
func TestHandHeldDirty(t *testing.T) {
	p, d := made(t, 8, 2)
	lays(t, p, 0, good(110))
	done(t, "Pin", p.Pin(0))
	readAll(t, p, 1, 2, 3, 4)
	areFrames(t, p, 0, 4)
	areDirty(t, p, 0)
	onDisk(t, d, 0, good(0))
	reads(t, p, 0, good(110))
}

// PO1: a dirty frame that can't be written stays as it is; the hand is behind it, and what was used is not any more.
func TestHandFull(t *testing.T) {
	p, d := made(t, 8, 3)
	for i := range 3 {
		lays(t, p, i, good(byte(i)))
	}
	done(t, "Limit", d.Limit(0))
	fails(t, "Write with no writes left", p.Write(3, good(3)), api.ErrFull)
	areFrames(t, p, 0, 1, 2)
	areDirty(t, p, 0, 1, 2)
	fails(t, "Unpin of what did not come in", p.Unpin(3), api.ErrNone)
	readAll(t, p, 2)
	done(t, "Limit", d.Limit(1))
	lays(t, p, 3, good(3))
	areFrames(t, p, 0, 3, 2)
	areDirty(t, p, 0, 1, 2)
	done(t, "Limit", d.Limit(1))
	readAll(t, p, 4) // 2 was used, 0 is not any more
	areFrames(t, p, 4, 3, 2)
	areDirty(t, p, 1, 2)
}

// PO1: with no writes left each try comes one frame further, to one that is clean.
func TestHandFullRound(t *testing.T) {
	p, d := made(t, 8, 4)
	for i := range 4 {
		reads(t, p, i, good(byte(i)))
		if i != 2 {
			lays(t, p, i, good(byte(120+i)))
		}
	}
	done(t, "Limit", d.Limit(0))
	cannotRead(t, "a sector with no writes left", p, 7, api.ErrFull) // twice: frames 0 and 1
	areLoads(t, p, 6)                                                // it is read ahead of the frame
	areFrames(t, p, 0, 1, 2, 3)
	areDirty(t, p, 0, 1, 3)
	reads(t, p, 7, good(7))
	areFrames(t, p, 0, 1, 7, 3)
	areDirty(t, p, 0, 1, 3)
	fails(t, "Write with no writes left", p.Write(6, good(6)), api.ErrFull) // frame 3
	lays(t, p, 7, good(77))
	done(t, "Rot", d.Rot(5, 5, 5))
	cannotRead(t, "a sector that rots, with no writes left", p, 5, api.ErrSum) // and the hand stays
	areFrames(t, p, 0, 1, 7, 3)
	areDirty(t, p, 0, 1, 2, 3)
	if d.Writes() != 8 {
		t.Error("writes beyond the limit")
	}
	for i := range 8 {
		if i != 5 {
			onDisk(t, d, i, good(byte(i)))
		}
	}
	done(t, "Limit", d.Limit(-1))
	lays(t, p, 6, good(126))
	areFrames(t, p, 6, 1, 7, 3)
	onDisk(t, d, 0, good(120))
	reads(t, p, 1, good(121))
	reads(t, p, 7, good(77))
	reads(t, p, 3, good(123))
}
