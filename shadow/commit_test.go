package shadow

import (
	"slices"
	"testing"

	"quilt/api"
	"quilt/disk"
	"quilt/page"
)

// SD3: as many tables as go up to the greatest number, whatever is below it.
func TestTables(t *testing.T) {
	for _, c := range []struct {
		pages  []int
		tables int
	}{
		{nil, 0}, {[]int{0}, 1}, {[]int{122}, 1}, {[]int{0, 122}, 1}, {[]int{123}, 2}, {[]int{122, 123}, 2}, {[]int{0, 122, 123, 245}, 2},
		{[]int{246}, 3}, {[]int{7, 1000}, 9}, {[]int{14882}, 121}, {[]int{14883}, 122}, {[]int{15004}, 122}, {[]int{15005}, 122},
	} {
		s, d := made(t, 200, 3)
		for _, n := range c.pages {
			lays(t, s, n, filled(n))
		}
		has(t, s, 0, 198-len(c.pages), c.pages...)
		done(t, "Commit", s.Commit())
		for _, s := range []*Shadow{s, opened(t, d, 3)} {
			has(t, s, 1, 198-len(c.pages)-c.tables, c.pages...)
			for _, n := range c.pages {
				reads(t, s, n, filled(n), 1)
			}
		}
	}
}

// SD3: the tables are as many as the pages that are there now need: a page that was dropped needs none.
func TestTablesOfNow(t *testing.T) {
	s, d := made(t, 30, 3)
	lays(t, s, 1, filled(1))
	lays(t, s, 500, filled(2))
	done(t, "Commit", s.Commit())
	has(t, s, 1, 28-2-5, 1, 500)
	drops(t, s, 500)
	has(t, s, 1, 28-2-5, 1)
	done(t, "Commit", s.Commit())
	has(t, s, 2, 28-1-1, 1)
	drops(t, s, 1)
	done(t, "Commit", s.Commit())
	has(t, s, 3, 28)
	done(t, "Commit", s.Commit()) // nothing was done
	has(t, s, 4, 28)
	has(t, opened(t, d, 1), 4, 28)
}

// SD3: a Commit needs as many free sectors as there are tables; with one fewer nothing changes.
func TestCommitRoom(t *testing.T) {
	for tables := 1; tables < 5; tables++ {
		for _, spare := range []int{0, 1} {
			s, d := made(t, 2+1+tables+2+spare, 2)
			lays(t, s, 123*tables-1, filled(1))
			done(t, "Commit", s.Commit())
			has(t, s, 1, 2+spare, 123*tables-1)
			lays(t, s, 0, filled(2))
			lays(t, s, 1, filled(3))
			drops(t, s, 1)
			has(t, s, 1, 1+spare, 0, 123*tables-1)
			if tables <= 1+spare {
				done(t, "Commit", s.Commit())
				has(t, s, 2, 1+spare, 0, 123*tables-1)
				continue
			}
			writes := d.Writes()
			for range 2 {
				fails(t, "Commit with too few sectors", s.Commit(), api.ErrFull)
				has(t, s, 1, 1+spare, 0, 123*tables-1)
				reads(t, s, 0, filled(2), 2)
			}
			if d.Writes() > writes+2 {
				t.Errorf("%d writes of a Commit that failed", d.Writes()-writes)
			}
			has(t, opened(t, d, 1), 1, 2+spare, 123*tables-1)
			drops(t, s, 123*tables-1) // what is left needs only one
			done(t, "Commit", s.Commit())
			has(t, s, 2, 1+tables+2+spare-2, 0)
			reads(t, s, 0, filled(2), 2)
		}
	}
}

// SD3: with as many free sectors as tables, and none more, over and over.
func TestCommitJust(t *testing.T) {
	s, d := made(t, 2+2+2, 1)
	for i := range 6 {
		lays(t, s, 122, filled(i))
		done(t, "Commit", s.Commit())
		has(t, s, i+1, 2, 122)
		fails(t, "Write beyond what there is", func() error {
			lays(t, s, 0, filled(0))
			lays(t, s, 1, filled(0))
			return s.Write(2, filled(0))
		}(), api.ErrFull)
		fails(t, "Commit without a sector", s.Commit(), api.ErrFull)
		done(t, "Abort", s.Abort())
		has(t, opened(t, d, 1), i+1, 2, 122)
	}
	drops(t, s, 122)
	done(t, "Commit", s.Commit()) // no table, no sector
	has(t, s, 7, 4)
}

// SD2, SD3: a page has the epoch of the Commit that keeps it first, ahead of that Commit too.
func TestEpochs(t *testing.T) {
	s, d := made(t, 7, 2)
	lays(t, s, 0, filled(0))
	reads(t, s, 0, filled(0), 1)
	done(t, "Abort", s.Abort())
	lays(t, s, 0, filled(1))
	done(t, "Commit", s.Commit())
	lays(t, s, 1, filled(2))
	reads(t, s, 0, filled(1), 1)
	reads(t, s, 1, filled(2), 2)
	done(t, "Commit", s.Commit())
	done(t, "Commit", s.Commit())
	lays(t, s, 2, filled(3))
	lays(t, s, 3, filled(3))
	fails(t, "Commit with too few sectors", s.Commit(), api.ErrFull)
	has(t, s, 3, 0, 0, 1, 2, 3)
	drops(t, s, 3)
	done(t, "Commit", s.Commit())
	for _, s := range []*Shadow{s, opened(t, d, 2)} {
		has(t, s, 4, 1, 0, 1, 2)
		reads(t, s, 0, filled(1), 1)
		reads(t, s, 1, filled(2), 2)
		reads(t, s, 2, filled(3), 4)
	}
}

// SD3: Pages are ascending, however they were written.
func TestPagesAscending(t *testing.T) {
	s, d := made(t, 300, 2)
	numbers := []int{9000, 0, 500, 499, 123, 122, 15005, 1}
	for _, n := range numbers {
		lays(t, s, n, filled(n))
	}
	slices.Sort(numbers)
	arePages(t, s, numbers...)
	done(t, "Commit", s.Commit())
	arePages(t, s, numbers...)
	arePages(t, opened(t, d, 2), numbers...)
}

// SD3: behind an Abort there is what is kept: what was written, dropped, or both, is as it was.
func TestAbort(t *testing.T) {
	s, d := made(t, 20, 2)
	done(t, "Abort of nothing", s.Abort())
	has(t, s, 0, 18)
	for n := range 4 {
		lays(t, s, n, filled(n))
	}
	done(t, "Abort", s.Abort())
	has(t, s, 0, 18)
	cannotRead(t, s, 0, api.ErrNone)
	for n := range 4 {
		lays(t, s, n, filled(10+n))
	}
	done(t, "Commit", s.Commit())
	has(t, s, 1, 13, 0, 1, 2, 3)
	for range 3 {
		lays(t, s, 0, filled(20))
		drops(t, s, 1)
		lays(t, s, 2, filled(21))
		drops(t, s, 2)
		drops(t, s, 3)
		lays(t, s, 3, filled(22))
		lays(t, s, 4, filled(23))
		lays(t, s, 5, filled(24))
		drops(t, s, 5)
		has(t, s, 1, 10, 0, 3, 4)
		for range 2 {
			done(t, "Abort", s.Abort())
			has(t, s, 1, 13, 0, 1, 2, 3)
			for n := range 4 {
				reads(t, s, n, filled(10+n), 1)
			}
			cannotRead(t, s, 4, api.ErrNone)
			cannotRead(t, s, 5, api.ErrNone)
			has(t, opened(t, d, 2), 1, 13, 0, 1, 2, 3)
		}
	}
	done(t, "Commit", s.Commit()) // of what is there behind it
	s = opened(t, d, 2)
	has(t, s, 2, 13, 0, 1, 2, 3)
	for n := range 4 {
		reads(t, s, n, filled(10+n), 1)
	}
}

// SD2: a sector that rots is told, and others are read; what is written anew is read.
func TestRot(t *testing.T) {
	for _, at := range []int{0, 1, 14, 300, 511} {
		s, d := made(t, 10, 1)
		for n := range 3 {
			lays(t, s, n, filled(n))
		}
		done(t, "Commit", s.Commit())
		done(t, "Rot", d.Rot(3, at, 0x10)) // page 1
		for _, s := range []*Shadow{s, opened(t, d, 4)} {
			for range 2 {
				reads(t, s, 0, filled(0), 1)
				cannotRead(t, s, 1, api.ErrSum)
				reads(t, s, 2, filled(2), 1)
			}
			has(t, s, 1, 4, 0, 1, 2)
		}
		drops(t, s, 1) // it is there all the same
		lays(t, s, 1, filled(8))
		done(t, "Commit", s.Commit())
		reads(t, s, 1, filled(8), 2)
	}
}

// SD2: a sector that is good, but has another page, or none, is told too.
func TestWrongSector(t *testing.T) {
	s, d := made(t, 10, 1)
	for n := range 3 {
		lays(t, s, n, filled(0))
	}
	done(t, "Commit", s.Commit())
	b, err := d.Read(2)
	done(t, "Read of the disk", err)
	for _, wrong := range [][]byte{b, noPage()} {
		done(t, "Write of the disk", d.Write(3, wrong))
		for _, s := range []*Shadow{s, opened(t, d, 1)} {
			reads(t, s, 0, filled(0), 1)
			cannotRead(t, s, 1, api.ErrSum)
			reads(t, s, 2, filled(0), 1)
		}
	}
}

// stopped is a Shadow of a frame on a disk that takes so many writes more: pages 0 to 3 are kept, and since 0 was written, 1 dropped.
func stopped(t *testing.T, limit int) (*Shadow, *disk.Disk) {
	t.Helper()
	s, d := made(t, 20, 1)
	for n := range 4 {
		lays(t, s, n, filled(n))
	}
	done(t, "Commit", s.Commit())
	lays(t, s, 0, filled(10))
	drops(t, s, 1)
	done(t, "Limit", d.Limit(limit))
	return s, d
}

// An error of layer 4 in Write is answered; what was there is, for those calls that answer still.
func TestWriteOfFullDisk(t *testing.T) {
	for limit := range 4 {
		s, d := stopped(t, limit)
		pages := []int{0, 2, 3}
		for i := range limit {
			lays(t, s, 10+i, filled(i))
			pages = append(pages, 10+i)
		}
		has(t, s, 1, 12-limit, pages...)
		fails(t, "Write without writes", s.Write(3, filled(5)), api.ErrFull)
		for range 2 {
			has(t, s, 1, 12-limit, pages...)
			isStuck(t, s)
			done(t, "Limit", d.Limit(-1)) // too late
		}
		done(t, "Crash", d.Crash(nil, -1, 0))
		s = opened(t, d, 2)
		has(t, s, 1, 13, 0, 1, 2, 3)
		for n := range 4 {
			reads(t, s, n, filled(n), 1)
		}
	}
}

// An error of layer 4 in Commit, wherever it comes.
func TestCommitOfFullDisk(t *testing.T) {
	limit := 0
	for ; limit < 10; limit++ {
		s, d := stopped(t, limit)
		if s.Commit() == nil {
			has(t, s, 2, 14, 0, 2, 3)
			has(t, opened(t, d, 2), 2, 14, 0, 2, 3)
			break
		}
		s, d = stopped(t, limit)
		fails(t, "Commit without writes", s.Commit(), api.ErrFull)
		for range 2 {
			has(t, s, 1, 12, 0, 2, 3)
			isStuck(t, s)
			done(t, "Limit", d.Limit(-1))
		}
		has(t, opened(t, d, 2), 1, 13, 0, 1, 2, 3) // that was not told to have come
	}
	if limit != 3 {
		t.Errorf("a page, a table and a root need %d writes", limit)
	}
}

// An error of layer 4 in Read is answered, and no more: all goes on.
func TestReadOfFullDisk(t *testing.T) {
	s, d := stopped(t, 0)
	for range 2 {
		cannotRead(t, s, 2, api.ErrFull)
		reads(t, s, 0, filled(10), 2)
		has(t, s, 1, 12, 0, 2, 3)
	}
	lays(t, s, 0, filled(11))
	drops(t, s, 3)
	done(t, "Limit", d.Limit(-1))
	reads(t, s, 2, filled(2), 1)
	done(t, "Commit", s.Commit())
	has(t, opened(t, d, 2), 2, 15, 0, 2)
	done(t, "Rot", d.Rot(4, 100, 1)) // page 2
	s = opened(t, d, 2)
	cannotRead(t, s, 2, api.ErrSum)
	lays(t, s, 2, filled(12))
	done(t, "Commit", s.Commit())
}

// ErrState, ahead of what else may be wrong; and only behind an error of layer 4: what layer 5 tells itself stops nothing.
func TestErrorsThatStopNothing(t *testing.T) {
	s, _ := made(t, 4, 1)
	lays(t, s, 0, filled(0))
	lays(t, s, 1, filled(1))
	fails(t, "Write with no sector", s.Write(2, filled(2)), api.ErrFull)
	fails(t, "Commit with no sector", s.Commit(), api.ErrFull)
	fails(t, "Write of no number", s.Write(-1, filled(2)), api.ErrRange)
	fails(t, "Write of no page", s.Write(0, page.Page{}), api.ErrArg)
	fails(t, "Drop of no page", s.Drop(3), api.ErrNone)
	cannotRead(t, s, 3, api.ErrNone)
	drops(t, s, 1)
	done(t, "Commit", s.Commit())
	has(t, s, 1, 0, 0)
}
