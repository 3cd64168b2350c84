package shadow

import (
	"maps"
	"slices"
	"testing"

	"quilt/api"
	"quilt/chance"
	"quilt/disk"
	"quilt/page"
)

// toldPage is a page, and where it stands.
type toldPage struct {
	p      page.Page
	sector int
	since  bool // the last Commit it was written
}

// model is a Shadow as the chapter tells it, all sectors gone over at each step: another way than the package's own, to hold it against.
type model struct {
	sectors   int
	kept, now map[int]toldPage
	tables    []int
	epoch     int
}

// free are all free sectors.
func (m *model) free() []int {
	var l []int
	for sector := 2; sector < m.sectors; sector++ {
		stands := func(pages map[int]toldPage, since bool) bool {
			for _, p := range pages {
				if p.sector == sector && (p.since || !since) {
					return true
				}
			}
			return false
		}
		if !stands(m.kept, false) && !stands(m.now, true) && !slices.Contains(m.tables, sector) {
			l = append(l, sector)
		}
	}
	return l
}

func (m *model) write(n int, p page.Page) error {
	p.Number, p.Epoch = uint32(n), uint64(m.epoch+1)
	sector := m.now[n].sector
	if !m.now[n].since {
		free := m.free()
		if len(free) == 0 {
			return api.ErrFull
		}
		sector = free[0]
	}
	m.now[n] = toldPage{p, sector, true}
	return nil
}

func (m *model) drop(n int) error {
	if _, ok := m.now[n]; !ok {
		return api.ErrNone
	}
	delete(m.now, n)
	return nil
}

func (m *model) commit() error {
	free, tables := m.free(), 0
	for n := range m.now {
		tables = max(tables, n/123+1)
	}
	if len(free) < tables {
		return api.ErrFull
	}
	m.kept, m.tables = map[int]toldPage{}, free[:tables]
	for n, p := range m.now {
		m.kept[n] = toldPage{p.p, p.sector, false}
	}
	m.epoch++
	m.abort()
	return nil
}

func (m *model) abort() { m.now = maps.Clone(m.kept) }

// holdsAgainst is what a Shadow tells, against what it should.
func (m *model) holdsAgainst(t *testing.T, s *Shadow, read bool) {
	t.Helper()
	has(t, s, m.epoch, len(m.free()), slices.Sorted(maps.Keys(m.now))...)
	if !read {
		return
	}
	for n, p := range m.now {
		reads(t, s, n, p.p, int(p.p.Epoch))
	}
}

// areKept holds the sectors of a disk against those where pages are kept.
func (m *model) areKept(t *testing.T, d *disk.Disk) {
	t.Helper()
	for n, p := range m.kept {
		stands(t, d, p.sector, n, int(p.p.Epoch))
	}
}

// step does something by chance, to both; it tells whether layer 4 failed.
func (m *model) step(t *testing.T, c *chance.Chance, s *Shadow) bool {
	t.Helper()
	n := []int{0, 1, 2, 3, 121, 122, 123, 124, 245, 246, 400}[c.Below(11)]
	before := *m
	before.kept, before.now = maps.Clone(m.kept), maps.Clone(m.now)
	var want, got error
	switch c.Below(12) {
	case 0:
		want, got = m.commit(), s.Commit()
	case 1:
		m.abort()
		got = s.Abort()
	case 2, 3, 4:
		want, got = m.drop(n), s.Drop(n)
	default:
		p := filled(c.Below(1000))
		want, got = m.write(n, p), s.Write(n, p)
	}
	if want == nil && got != nil { // there are not enough writes
		fails(t, "a call of a full disk", got, api.ErrFull)
		*m = before
		return true
	}
	if want == nil {
		done(t, "a call", got)
		return false
	}
	var number api.Errno = want.(api.Errno)
	fails(t, "a call", got, number)
	return false
}

// crash is any crash.
func crash(t *testing.T, c *chance.Chance, d *disk.Disk) {
	t.Helper()
	var keep []int
	torn := -1
	for place := range d.Pending() {
		switch c.Below(3) {
		case 0:
			keep = append(keep, place)
		case 1:
			torn = place
		}
	}
	done(t, "Crash", d.Crash(keep, torn, c.Below(513)))
}

// SD1 to SD4: whatever is done, in whatever order, and whatever befalls the disk.
func TestAsTold(t *testing.T) {
	stuck := 0
	for seed := range 150 {
		c := chance.Chance(seed)
		sectors, frames := 4+c.Below(24), 1+c.Below(6)
		s, d := made(t, sectors, frames)
		m := &model{sectors: sectors, kept: map[int]toldPage{}, now: map[int]toldPage{}}
		for range 250 {
			if c.Below(12) == 0 {
				done(t, "Limit", d.Limit(c.Below(8)))
			}
			failed := m.step(t, &c, s)
			m.holdsAgainst(t, s, false)
			if failed {
				stuck++
				isStuck(t, s)
				m.holdsAgainst(t, s, false)
			}
			if failed || c.Below(15) == 0 {
				crash(t, &c, d)
				s = opened(t, d, frames)
				m.abort()
				m.areKept(t, d)
			}
			if c.Below(5) == 0 {
				done(t, "Limit", d.Limit(-1))
				m.holdsAgainst(t, s, true)
			}
		}
	}
	if stuck < 100 {
		t.Errorf("layer 4 failed only %d times", stuck)
	}
}
