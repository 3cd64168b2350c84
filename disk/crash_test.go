package disk

import (
	"bytes"
	"math"
	"slices"
	"testing"

	"quilt/api"
	"quilt/chance"
)

// four is a Disk whose sector i was flushed with i+1 over and over, and of which 3, 0, 2 are pending, in this order, with 0xf0+i.
func four(t *testing.T) *Disk {
	t.Helper()
	d := made(t, 4)
	for i := range 4 {
		write(t, d, i, full(byte(i+1)))
	}
	done(t, "Flush", d.Flush())
	for _, i := range []int{3, 0, 2} {
		write(t, d, i, full(0xee)) // not what it is at last
		write(t, d, i, full(byte(0xf0+i)))
	}
	return d
}

// areThere holds all sectors against those bytes, now and behind one crash more that keeps nothing.
func areThere(t *testing.T, d *Disk, want ...[]byte) {
	t.Helper()
	for i, b := range want {
		isThere(t, d, i, b)
	}
	arePending(t, d)
	done(t, "Crash", d.Crash(nil, -1, 0))
	for i, b := range want {
		isThere(t, d, i, b)
	}
}

// torn is so many bytes of one, and then what is sure.
func torn(part int, of, sure byte) []byte { return append(full(of)[:part:part], full(sure)[part:]...) }

// The chapter's example: what was not flushed is noughts behind a crash.
func TestExample(t *testing.T) {
	d := made(t, 2)
	write(t, d, 0, full(5))
	done(t, "Flush", d.Flush())
	write(t, d, 1, full(6))
	done(t, "Crash", d.Crash(nil, -1, 0))
	areThere(t, d, full(5), full(0))
}

// DK2: each sector is what was sure, but those in keep, by their places in Pending.
func TestCrashKeep(t *testing.T) {
	place := []int{3, 0, 2}
	for _, keep := range [][]int{nil, {}, {0}, {1}, {2}, {0, 1}, {1, 0}, {2, 0}, {1, 2}, {0, 1, 2}, {2, 1, 0}, {1, 2, 0}} {
		for _, part := range []int{0, 1, 512} { // of no torn sector any part is none
			d := four(t)
			done(t, "Crash", d.Crash(keep, -1, part))
			want := [][]byte{full(1), full(2), full(3), full(4)}
			for _, k := range keep {
				want[place[k]] = full(byte(0xf0 + place[k]))
			}
			areThere(t, d, want...)
			areWrites(t, d, 10)
		}
	}
}

// DK2: of that of torn the first part bytes are as they were written last.
func TestCrashTorn(t *testing.T) {
	for _, part := range []int{0, 1, 2, 255, 256, 257, 511, 512} {
		d := four(t)
		done(t, "Crash", d.Crash(nil, 0, part))
		areThere(t, d, full(1), full(2), full(3), torn(part, 0xf3, 4))
		d = four(t)
		done(t, "Crash", d.Crash([]int{2, 0}, 1, part))
		areThere(t, d, torn(part, 0xf0, 1), full(2), full(0xf2), full(0xf3))
		d = four(t)
		done(t, "Crash", d.Crash([]int{1}, 2, part))
		areThere(t, d, full(0xf0), full(2), torn(part, 0xf2, 3), full(4))
	}
}

// DK2: a crash that can't be is ErrArg, and nothing happens.
func TestCrashErrors(t *testing.T) {
	wrong := []struct {
		keep       []int
		torn, part int
	}{
		{[]int{3}, -1, 0}, {[]int{-1}, -1, 0}, {[]int{0, 3}, -1, 0}, {[]int{0, 1, 2, 3}, -1, 0}, {[]int{0, -1}, 1, 5},
		{[]int{math.MaxInt}, -1, 0}, {[]int{math.MinInt}, -1, 0},
		{[]int{0, 0}, -1, 0}, {[]int{1, 0, 1}, -1, 0}, {[]int{2, 1, 2}, 0, 7}, {[]int{0, 1, 2, 0}, -1, 0},
		{nil, 3, 0}, {nil, -2, 0}, {nil, math.MaxInt, 9}, {nil, math.MinInt, 9}, {[]int{0}, 3, 512},
		{[]int{0}, 0, 0}, {[]int{0}, 0, 512}, {[]int{2, 1}, 1, 7}, {[]int{0, 1, 2}, 2, 0},
		{nil, -1, -1}, {nil, -1, 513}, {nil, 0, -1}, {nil, 0, 513}, {[]int{1}, 2, math.MaxInt}, {[]int{1}, 2, math.MinInt},
	}
	for _, w := range wrong {
		d := four(t)
		done(t, "Limit", d.Limit(1))
		fails(t, "Crash", d.Crash(w.keep, w.torn, w.part), api.ErrArg)
		arePending(t, d, 3, 0, 2)
		for i, b := range [][]byte{full(0xf0), full(2), full(0xf2), full(0xf3)} {
			isThere(t, d, i, b)
		}
		done(t, "Crash", d.Crash(nil, -1, 0)) // what is sure is as it was, too
		areThere(t, d, full(1), full(2), full(3), full(4))
	}
}

// DK2: where nothing is pending, there is no place.
func TestCrashOfNothing(t *testing.T) {
	d := made(t, 2)
	fails(t, "Crash", d.Crash([]int{0}, -1, 0), api.ErrArg)
	fails(t, "Crash", d.Crash(nil, 0, 0), api.ErrArg)
	done(t, "Crash", d.Crash([]int{}, -1, 512))
	write(t, d, 1, full(1))
	done(t, "Flush", d.Flush())
	fails(t, "Crash", d.Crash([]int{0}, -1, 0), api.ErrArg)
	fails(t, "Crash", d.Crash(nil, 0, 3), api.ErrArg)
	areThere(t, d, full(0), full(1))
}

// DK2: a byte rots of what is sure, and of what the sector is now.
func TestRot(t *testing.T) {
	rotten := func(b []byte, at int, by byte) []byte {
		b[at] ^= by
		return b
	}
	for _, at := range []int{0, 1, 255, 510, 511} {
		for _, by := range []byte{0, 1, 0x80, 0x5a, 0xff} {
			d := four(t)
			done(t, "Rot", d.Rot(1, at, by)) // not pending
			done(t, "Rot", d.Rot(3, at, by)) // pending
			arePending(t, d, 3, 0, 2)
			areWrites(t, d, 10)
			now := [][]byte{full(0xf0), rotten(full(2), at, by), full(0xf2), rotten(full(0xf3), at, by)}
			for i, b := range now {
				isThere(t, d, i, b)
			}
			done(t, "Crash", d.Crash(nil, -1, 0))
			areThere(t, d, full(1), now[1], full(3), rotten(full(4), at, by))
			d = four(t)
			done(t, "Rot", d.Rot(3, at, by))
			done(t, "Flush", d.Flush())
			areThere(t, d, full(0xf0), full(2), full(0xf2), now[3])
			d = four(t)
			done(t, "Rot", d.Rot(3, at, by))
			done(t, "Crash", d.Crash(nil, 0, 256))
			areThere(t, d, full(1), full(2), full(3), rotten(torn(256, 0xf3, 4), at, by))
			d = four(t)
			done(t, "Rot", d.Rot(3, at, by))
			write(t, d, 3, full(9)) // what is written behind it has no rot, what was sure has
			isThere(t, d, 3, full(9))
			done(t, "Crash", d.Crash([]int{1}, -1, 0))
			areThere(t, d, full(0xf0), full(2), full(3), rotten(full(4), at, by))
		}
	}
}

// DK2: rot turns bits: the same once more and they are back; and it needs no write that may be done.
func TestRotTwice(t *testing.T) {
	d := made(t, 1)
	done(t, "Limit", d.Limit(0))
	done(t, "Rot", d.Rot(0, 100, 0x11))
	isThere(t, d, 0, append(append(make([]byte, 100), 0x11), make([]byte, 411)...))
	done(t, "Rot", d.Rot(0, 100, 0x10))
	isThere(t, d, 0, append(append(make([]byte, 100), 0x01), make([]byte, 411)...))
	done(t, "Rot", d.Rot(0, 100, 0x01))
	areThere(t, d, full(0))
	areWrites(t, d, 0)
}

// DK2: no such sector, or no such byte: ErrRange, and nothing rots.
func TestRotErrors(t *testing.T) {
	d := four(t)
	for _, i := range []int{-1, 4, 5, math.MinInt, math.MaxInt} {
		for _, at := range []int{-1, 0, 511, 512} {
			fails(t, "Rot of no such sector", d.Rot(i, at, 0xff), api.ErrRange)
		}
	}
	for i := range 4 {
		for _, at := range []int{-1, 512, 513, math.MinInt, math.MaxInt} {
			fails(t, "Rot of no such byte", d.Rot(i, at, 0xff), api.ErrRange)
			fails(t, "Rot of no such byte by nothing", d.Rot(i, at, 0), api.ErrRange)
		}
	}
	for i, b := range [][]byte{full(0xf0), full(2), full(0xf2), full(0xf3)} {
		isThere(t, d, i, b)
	}
	done(t, "Crash", d.Crash(nil, -1, 0))
	areThere(t, d, full(1), full(2), full(3), full(4))
}

// told is a disk as the chapter tells it, each sector copied whole at each step: another way than the package's own, to hold it against.
type told struct {
	sure, now [][]byte
	pending   []int
	left      int
}

func (m *told) write(i int, b []byte) bool {
	if m.left == 0 {
		return false
	}
	m.left--
	m.now[i] = b
	if !slices.Contains(m.pending, i) {
		m.pending = append(m.pending, i)
	}
	return true
}

func (m *told) rot(i, at int, by byte) {
	for _, all := range [][][]byte{m.sure, m.now} {
		all[i] = slices.Clone(all[i])
		all[i][at] ^= by
	}
}

func (m *told) flush() { m.sure, m.pending = slices.Clone(m.now), nil }

func (m *told) crash(keep []int, torn, part int) {
	next := slices.Clone(m.sure)
	for place, i := range m.pending {
		if slices.Contains(keep, place) {
			next[i] = m.now[i]
		}
		if place == torn {
			next[i] = append(slices.Clone(m.now[i][:part]), m.sure[i][part:]...)
		}
	}
	m.sure, m.now, m.pending, m.left = next, slices.Clone(next), nil, -1
}

// anyCrash are some of so many places, in any order, and perhaps one more that is torn.
func anyCrash(c *chance.Chance, places int) (keep []int, torn, part int) {
	torn = -1
	for place := range places {
		switch c.Below(3) {
		case 0:
			keep = slices.Insert(keep, c.Below(len(keep)+1), place)
		case 1:
			torn = place
		}
	}
	return keep, torn, c.Below(513)
}

// DK1 to DK3: whatever is done, in whatever order.
func TestAsTold(t *testing.T) {
	for seed := range 60 {
		c := chance.Chance(seed)
		n := 1 + c.Below(7)
		d := made(t, n)
		m := &told{left: -1}
		for range n {
			m.sure, m.now = append(m.sure, full(0)), append(m.now, full(0))
		}
		writes := 0
		for range 400 {
			switch c.Below(12) {
			case 0:
				done(t, "Flush", d.Flush())
				m.flush()
			case 1:
				keep, torn, part := anyCrash(&c, len(m.pending))
				done(t, "Crash", d.Crash(keep, torn, part))
				m.crash(keep, torn, part)
			case 2, 3:
				i, at, by := c.Below(n), c.Below(512), byte(c.Below(256))
				done(t, "Rot", d.Rot(i, at, by))
				m.rot(i, at, by)
			case 4:
				m.left = c.Below(9) - 1
				done(t, "Limit", d.Limit(m.left))
			default:
				i, b := c.Below(n), c.Bytes(512)
				if m.write(i, b) {
					writes++
					write(t, d, i, b)
				} else {
					fails(t, "Write beyond the limit", d.Write(i, b), api.ErrFull)
				}
			}
			arePending(t, d, m.pending...)
			areWrites(t, d, writes)
			for i, want := range m.now {
				if got, err := d.Read(i); err != nil || !bytes.Equal(got, want) {
					t.Fatalf("seed %d: Read(%d): %x, %v, want %x", seed, i, got, err, want)
				}
			}
		}
	}
}

// DK3: what was flushed is there behind each crash, till it is written or rots.
func TestFlushedStays(t *testing.T) {
	c := chance.Chance(99)
	d := made(t, 8)
	for i := range 8 {
		write(t, d, i, full(byte(i+1)))
	}
	done(t, "Flush", d.Flush())
	for range 50 {
		for range c.Below(9) {
			write(t, d, c.Below(4), c.Bytes(512))
		}
		done(t, "Crash", d.Crash(anyCrash(&c, len(d.Pending()))))
		for i := 4; i < 8; i++ {
			isThere(t, d, i, full(byte(i+1)))
		}
	}
	write(t, d, 6, full(0x66))
	done(t, "Crash", d.Crash([]int{0}, -1, 0))
	isThere(t, d, 6, full(0x66))
	done(t, "Rot", d.Rot(7, 0, 0xff))
	done(t, "Crash", d.Crash(nil, -1, 0))
	isThere(t, d, 7, torn(1, 0xf7, 8))
	isThere(t, d, 5, full(6))
}
