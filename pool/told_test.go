package pool

import (
	"slices"
	"testing"

	"quilt/api"
	"quilt/chance"
	"quilt/disk"
	"quilt/sum"
)

// toldFrame is a frame as the chapter tells it.
type toldFrame struct {
	sector, held int
	b            []byte
	dirty, used  bool
}

// told is a pool, and its disk, as the chapter tells them, gone over frame by frame at each step: another way than the package's own, to hold it against.
type told struct {
	disk        [][]byte
	pending     []int
	writes      int
	left        int
	frames      []*toldFrame
	hand, loads int
}

// put writes a frame to the disk.
func (m *told) put(f *toldFrame) error {
	if m.left == 0 {
		return api.ErrFull
	}
	m.left--
	m.writes++
	m.disk[f.sector] = f.b
	if !slices.Contains(m.pending, f.sector) {
		m.pending = append(m.pending, f.sector)
	}
	f.dirty = false
	return nil
}

// holds is the frame that holds a sector, or nil; of -1 it is the lowest empty one.
func (m *told) holds(i int) *toldFrame {
	for _, f := range m.frames {
		if f.sector == i {
			return f
		}
	}
	return nil
}

func (m *told) found(i int) (*toldFrame, error) {
	if f := m.holds(i); f != nil {
		return f, nil
	}
	f := m.holds(-1)
	// Twice round is enough, if there is any that is not held.
	for step := 0; f == nil && step < 2*len(m.frames); step++ {
		at := m.frames[m.hand]
		m.hand = (m.hand + 1) % len(m.frames)
		if at.held == 0 && !at.used {
			f = at
		} else if at.held == 0 {
			at.used = false
		}
	}
	if f == nil {
		return nil, api.ErrPins
	}
	if f.dirty {
		if err := m.put(f); err != nil {
			return nil, err
		}
	}
	*f = toldFrame{sector: i}
	return f, nil
}

func (m *told) read(i int, hold bool) ([]byte, error) {
	if m.holds(i) == nil {
		m.loads++
		if !sum.Good(m.disk[i]) {
			return nil, api.ErrSum
		}
	}
	f, err := m.found(i)
	if err != nil {
		return nil, err
	}
	if f.b == nil {
		f.b = m.disk[i]
	}
	f.used = true
	if hold {
		f.held++
	}
	return f.b, nil
}

func (m *told) write(i int, b []byte) error {
	f, err := m.found(i)
	if err == nil {
		f.b, f.dirty, f.used = b, true, true
	}
	return err
}

func (m *told) unpin(i int) error {
	f := m.holds(i)
	if f == nil || f.held == 0 {
		return api.ErrNone
	}
	f.held--
	return nil
}

func (m *told) flush() error {
	for _, f := range m.frames {
		if f.dirty {
			if err := m.put(f); err != nil {
				return err
			}
		}
	}
	m.pending = nil
	return nil
}

func (m *told) rot(i, at int, by byte) {
	m.disk[i] = slices.Clone(m.disk[i])
	m.disk[i][at] ^= by
}

// isError holds what a call answered against what the chapter tells.
func isError(t *testing.T, what string, got, want error) {
	t.Helper()
	if want == nil {
		done(t, what, got)
		return
	}
	fails(t, what, got, want.(api.Errno))
}

// PO1, PO2: whatever is done, in whatever order.
func TestAsTold(t *testing.T) {
	met := map[error]int{}
	for seed := range 300 {
		c := chance.Chance(seed)
		sectors, frames := 1+c.Below(12), 1+c.Below(6)
		p, d := made(t, sectors, frames)
		m := &told{left: -1, writes: sectors}
		for i := range sectors {
			m.disk = append(m.disk, good(byte(i)))
		}
		for range frames {
			m.frames = append(m.frames, &toldFrame{sector: -1})
		}
		for range 300 {
			met[step(t, &c, p, d, m)]++
			isTold(t, p, m)
			arePending(t, d, m.pending...)
			areWrites(t, d, m.writes)
			if t.Failed() {
				t.Fatalf("seed %d", seed)
			}
		}
		for i, b := range m.disk {
			onDisk(t, d, i, b)
		}
	}
	for _, err := range []error{nil, api.ErrSum, api.ErrPins, api.ErrNone, api.ErrFull} {
		if met[err] < 100 {
			t.Errorf("%v was met only %d times", err, met[err])
		}
	}
}

// step does something to a pool, or its disk, and to what is told of it, and answers what the chapter tells.
func step(t *testing.T, c *chance.Chance, p *Pool, d *disk.Disk, m *told) error {
	t.Helper()
	i := c.Below(len(m.disk))
	var want error
	switch c.Below(16) {
	case 0:
		want = m.flush()
		isError(t, "Flush", p.Flush(), want)
	case 1:
		m.left = c.Below(6) - 1
		done(t, "Limit", d.Limit(m.left))
	case 2:
		at, by := c.Below(512), byte(1<<c.Below(8))
		m.rot(i, at, by)
		done(t, "Rot", d.Rot(i, at, by))
	case 3, 4:
		_, want = m.read(i, true)
		isError(t, "Pin", p.Pin(i), want)
	case 5, 6, 7:
		want = m.unpin(i)
		isError(t, "Unpin", p.Unpin(i), want)
	case 8, 9, 10, 11:
		b := marked(c.Bytes(512))
		want = m.write(i, b)
		isError(t, "Write", p.Write(i, b), want)
	default:
		var b []byte
		b, want = m.read(i, false)
		got, err := p.Read(i)
		isError(t, "Read", err, want)
		if !slices.Equal(got, b) {
			t.Fatalf("Read(%d): %x, want %x", i, got, b)
		}
	}
	return want
}

// isTold holds what a pool tells of itself against what it should.
func isTold(t *testing.T, p *Pool, m *told) {
	t.Helper()
	var sectors, dirty []int
	for at, f := range m.frames {
		sectors = append(sectors, f.sector)
		if f.dirty {
			dirty = append(dirty, at)
		}
	}
	areFrames(t, p, sectors...)
	areDirty(t, p, dirty...)
	areLoads(t, p, m.loads)
}

// PO3: Read answers what was laid last, and a sector that is held stays in its frame, whatever was done between, errors too.
func TestLaidLast(t *testing.T) {
	for seed := range 40 {
		c := chance.Chance(1000 + seed)
		sectors, frames := 1+c.Below(20), 1+c.Below(5)
		p, d := made(t, sectors, frames)
		var last [][]byte
		for i := range sectors {
			last = append(last, good(byte(i)))
		}
		held := make([]int, sectors)
		place := make([]int, sectors) // of those that are held
		for range 600 {
			i := c.Below(sectors)
			switch c.Below(8) {
			case 0, 1:
				b := marked(c.Bytes(512))
				if p.Write(i, b) == nil {
					last[i] = b
				}
			case 2:
				if p.Pin(i) == nil {
					held[i]++
					place[i] = slices.Index(p.Frames(), i)
				}
			case 3, 4:
				if (p.Unpin(i) == nil) != (held[i] > 0) {
					t.Fatalf("seed %d: Unpin(%d), which is held %d times", seed, i, held[i])
				}
				held[i] = max(0, held[i]-1)
			case 5:
				done(t, "Limit", d.Limit(c.Below(4)-1))
				if p.Flush() == nil {
					areDirty(t, p)
				}
			default:
				if b, err := p.Read(i); err == nil && !slices.Equal(b, last[i]) {
					t.Fatalf("seed %d: Read(%d): %x, want %x", seed, i, b, last[i])
				}
			}
			for i, times := range held {
				if times > 0 && p.Frames()[place[i]] != i {
					t.Fatalf("seed %d: %d is held, and not in frame %d: %v", seed, i, place[i], p.Frames())
				}
			}
		}
		done(t, "Limit", d.Limit(-1))
		for i, times := range held {
			for range times {
				done(t, "Unpin", p.Unpin(i))
			}
		}
		for i := range sectors {
			reads(t, p, i, last[i])
		}
		done(t, "Flush", p.Flush())
		for i := range sectors {
			onDisk(t, d, i, last[i])
		}
	}
}
