package shadow

import (
	"bytes"
	"errors"
	"math"
	"slices"
	"testing"

	"quilt/api"
	"quilt/disk"
	"quilt/page"
)

func disked(t *testing.T, sectors int) *disk.Disk {
	t.Helper()
	d, err := disk.New(sectors)
	done(t, "disk.New", err)
	return d
}

// begun is a Shadow without pages on a disk.
func begun(t *testing.T, d *disk.Disk, frames int) *Shadow {
	t.Helper()
	s, err := New(d, frames)
	if err != nil || s == nil {
		t.Fatalf("New of %d frames on %d sectors: %v, %v", frames, d.Size(), s, err)
	}
	return s
}

// made is a Shadow without pages, and its disk of so many sectors.
func made(t *testing.T, sectors, frames int) (*Shadow, *disk.Disk) {
	t.Helper()
	d := disked(t, sectors)
	return begun(t, d, frames), d
}

func opened(t *testing.T, d *disk.Disk, frames int) *Shadow {
	t.Helper()
	s, err := Open(d, frames)
	if err != nil || s == nil {
		t.Fatalf("Open of %d frames on %d sectors: %v, %v", frames, d.Size(), s, err)
	}
	return s
}

// done is for calls that must not fail.
func done(t *testing.T, what string, err error) {
	t.Helper()
	if err != nil {
		t.Fatalf("%s: %v", what, err)
	}
}

func fails(t *testing.T, what string, err error, want api.Errno) {
	t.Helper()
	var number api.Errno
	if !errors.As(err, &number) || number != want {
		t.Errorf("%s: %v, want %v", what, err, want)
	}
}

// notMade is for New and Open that fail.
func notMade(t *testing.T, what string, s *Shadow, err error, want api.Errno) {
	t.Helper()
	fails(t, what, err, want)
	if s != nil {
		t.Errorf("%s: a Shadow beside the error", what)
	}
}

// filled is a page that is told from others by x, whose number and epoch nobody has.
func filled(x int) page.Page {
	p := page.Page{Kind: byte(x), Number: 987654, Epoch: 1 << 60, Size: 1 + x%7}
	for i := range 1 + x%5 {
		p.Records = append(p.Records, bytes.Repeat([]byte{byte(x + i)}, p.Size))
	}
	return p
}

func lays(t *testing.T, s *Shadow, n int, p page.Page) {
	t.Helper()
	if err := s.Write(n, p); err != nil {
		t.Fatalf("Write(%d): %v", n, err)
	}
}

func drops(t *testing.T, s *Shadow, n int) {
	t.Helper()
	if err := s.Drop(n); err != nil {
		t.Fatalf("Drop(%d): %v", n, err)
	}
}

func isSame(a, b page.Page) bool {
	return a.Kind == b.Kind && a.Number == b.Number && a.Epoch == b.Epoch && a.Size == b.Size && slices.EqualFunc(a.Records, b.Records, bytes.Equal)
}

// reads wants that page, by its number, and of an epoch.
func reads(t *testing.T, s *Shadow, n int, p page.Page, epoch int) {
	t.Helper()
	p.Number, p.Epoch = uint32(n), uint64(epoch)
	got, err := s.Read(n)
	if err != nil || !isSame(got, p) {
		t.Errorf("Read(%d): %v, %v, want %v", n, got, err, p)
	}
}

func cannotRead(t *testing.T, s *Shadow, n int, want api.Errno) {
	t.Helper()
	p, err := s.Read(n)
	fails(t, "Read", err, want)
	if !isSame(p, page.Page{}) {
		t.Errorf("Read(%d): a page beside the error", n)
	}
}

func arePages(t *testing.T, s *Shadow, want ...int) {
	t.Helper()
	if got := s.Pages(); !slices.Equal(got, want) {
		t.Errorf("Pages: %v, want %v", got, want)
	}
}

// has is for what the three calls tell that never fail.
func has(t *testing.T, s *Shadow, epoch, free int, pages ...int) {
	t.Helper()
	if s.Epoch() != epoch || s.Free() != free {
		t.Errorf("Epoch %d, Free %d, want %d, %d", s.Epoch(), s.Free(), epoch, free)
	}
	arePages(t, s, pages...)
}

// stands wants page n in a sector of the disk, whatever the Shadow tells.
func stands(t *testing.T, d *disk.Disk, sector, n, epoch int) {
	t.Helper()
	b, err := d.Read(sector)
	done(t, "Read of the disk", err)
	p, err := page.Decode(b)
	if err != nil || p.Number != uint32(n) || p.Epoch != uint64(epoch) {
		t.Errorf("sector %d: number %d, epoch %d, %v, want page %d, epoch %d", sector, p.Number, p.Epoch, err, n, epoch)
	}
}

// isStuck is for a Shadow of which layer 4 failed: all calls but three answer ErrState, whatever they are given.
func isStuck(t *testing.T, s *Shadow) {
	t.Helper()
	for _, n := range []int{-1, 0, 1, 5, MaxPages - 1, MaxPages, math.MinInt, math.MaxInt} {
		cannotRead(t, s, n, api.ErrState)
		fails(t, "Write of a page", s.Write(n, filled(1)), api.ErrState)
		fails(t, "Write of none", s.Write(n, page.Page{}), api.ErrState)
		fails(t, "Drop", s.Drop(n), api.ErrState)
	}
	fails(t, "Commit", s.Commit(), api.ErrState)
	fails(t, "Abort", s.Abort(), api.ErrState)
}

// The chapter's example.
func TestExample(t *testing.T) {
	s, _ := made(t, 8, 2)
	has(t, s, 0, 6)
	lays(t, s, 0, filled(1))
	done(t, "Commit", s.Commit())
	has(t, s, 1, 4, 0)
}

// SD1: nothing is kept; the fewest sectors, and the fewest and the most frames.
func TestNew(t *testing.T) {
	for _, sectors := range []int{4, 5, 100, api.MaxSectors} {
		for _, frames := range []int{1, 2, 1024} {
			s, d := made(t, sectors, frames)
			has(t, s, 0, sectors-2)
			cannotRead(t, s, 0, api.ErrNone)
			has(t, opened(t, d, frames), 0, sectors-2)
		}
	}
}

// SD1: a disk that can't be, or frames that layer 4 does not take; by New and Open, whatever the disk holds.
func TestNewErrors(t *testing.T) {
	both := func(what string, d *disk.Disk, frames int) {
		s, err := New(d, frames)
		notMade(t, "New of "+what, s, err, api.ErrArg)
		s, err = Open(d, frames)
		notMade(t, "Open of "+what, s, err, api.ErrArg)
	}
	for _, frames := range []int{math.MinInt, -1, 0, 1, 1024, 1025} {
		both("no disk", nil, frames)
		for sectors := 1; sectors < 4; sectors++ {
			both("too few sectors", disked(t, sectors), frames)
		}
	}
	_, kept := made(t, 4, 1)
	for _, d := range []*disk.Disk{disked(t, 4), disked(t, 9), kept} {
		for _, frames := range []int{math.MinInt, -1, 0, 1025, math.MaxInt} {
			both("frames that can't be", d, frames)
		}
	}
}

// SD1: what the disk held is not kept any more, roots, tables and pages neither; nor does it come back.
func TestNewOnUsed(t *testing.T) {
	for commits := range 4 {
		s, d := made(t, 12, 3)
		for i := range commits {
			lays(t, s, i, filled(i))
			done(t, "Commit", s.Commit())
		}
		lays(t, s, 7, filled(7))
		s = begun(t, d, 2)
		has(t, s, 0, 10)
		cannotRead(t, s, 0, api.ErrNone)
		cannotRead(t, s, 7, api.ErrNone)
		done(t, "Crash", d.Crash(nil, -1, 0))
		has(t, opened(t, d, 2), 0, 10)
		s = begun(t, d, 1)
		for i := range 5 {
			lays(t, s, 9, filled(20+i))
			done(t, "Commit", s.Commit())
			s = opened(t, d, 1)
			has(t, s, i+1, 8, 9)
			reads(t, s, 9, filled(20+i), i+1)
			cannotRead(t, s, 0, api.ErrNone)
		}
	}
}

// SD1: a disk of any bytes is one without a root, and New does not care.
func TestNewOnRubbish(t *testing.T) {
	d := disked(t, 5)
	for i := range 5 {
		done(t, "Write of the disk", d.Write(i, bytes.Repeat([]byte{0xa5}, 512)))
	}
	has(t, begun(t, d, 2), 0, 3)
	has(t, opened(t, d, 2), 0, 3)
}

// SD1: layer 4's errors, of New.
func TestNewFull(t *testing.T) {
	d := disked(t, 4)
	limit := 0
	for ; limit < 10; limit++ {
		done(t, "Limit", d.Limit(limit))
		s, err := New(d, 2)
		if err == nil {
			has(t, s, 0, 2)
			break
		}
		notMade(t, "New without writes", s, err, api.ErrFull)
	}
	if limit == 0 || limit == 10 {
		t.Errorf("New is done with %d writes", limit)
	}
}

// A nil Shadow: ErrArg, and nothing.
func TestNil(t *testing.T) {
	var s *Shadow
	has(t, s, 0, 0)
	for _, n := range []int{-1, 0, 1, MaxPages - 1, MaxPages, math.MaxInt} {
		cannotRead(t, s, n, api.ErrArg)
		fails(t, "Write of a page", s.Write(n, filled(1)), api.ErrArg)
		fails(t, "Write of none", s.Write(n, page.Page{}), api.ErrArg)
		fails(t, "Drop", s.Drop(n), api.ErrArg)
	}
	fails(t, "Commit", s.Commit(), api.ErrArg)
	fails(t, "Abort", s.Abort(), api.ErrArg)
}

// SD2: a page's number is from 0 to MaxPages - 1, which is 15,005.
func TestNumbers(t *testing.T) {
	if MaxPages != 15006 {
		t.Errorf("MaxPages: %d", MaxPages)
	}
	s, d := made(t, 300, 5)
	for _, n := range []int{math.MinInt, -123, -1, MaxPages, MaxPages + 1, MaxPages + 122, 1 << 32, math.MaxInt} {
		cannotRead(t, s, n, api.ErrRange)
		fails(t, "Write of no number", s.Write(n, filled(1)), api.ErrRange)
		fails(t, "Write of no page, of no number", s.Write(n, page.Page{}), api.ErrRange)
		fails(t, "Drop of no number", s.Drop(n), api.ErrRange)
	}
	has(t, s, 0, 298)
	numbers := []int{0, 1, 15004, 15005}
	for _, n := range numbers {
		cannotRead(t, s, n, api.ErrNone)
		lays(t, s, n, filled(n))
	}
	has(t, s, 0, 294, numbers...)
	done(t, "Commit", s.Commit())
	for _, s := range []*Shadow{s, opened(t, d, 1)} {
		has(t, s, 1, 294-122, numbers...)
		for _, n := range numbers {
			reads(t, s, n, filled(n), 1)
		}
		cannotRead(t, s, 2, api.ErrNone)
		cannotRead(t, s, 15003, api.ErrNone)
	}
}

// SD2: Read has what was written last, or that there is nothing.
func TestReadWriteDrop(t *testing.T) {
	s, d := made(t, 20, 2)
	lays(t, s, 4, filled(1))
	lays(t, s, 2, filled(2))
	lays(t, s, 4, filled(3)) // in the same sector
	has(t, s, 0, 16, 2, 4)
	reads(t, s, 4, filled(3), 1)
	reads(t, s, 2, filled(2), 1)
	drops(t, s, 2)
	has(t, s, 0, 17, 4)
	cannotRead(t, s, 2, api.ErrNone)
	fails(t, "Drop of a page that was dropped", s.Drop(2), api.ErrNone)
	fails(t, "Drop of a page that never was", s.Drop(3), api.ErrNone)
	lays(t, s, 2, filled(4)) // once more
	reads(t, s, 2, filled(4), 1)
	done(t, "Commit", s.Commit())
	has(t, s, 1, 15, 2, 4)
	drops(t, s, 4)
	has(t, s, 1, 15, 2) // its sector is kept
	cannotRead(t, s, 4, api.ErrNone)
	lays(t, s, 4, filled(5))
	lays(t, s, 2, filled(6))
	reads(t, s, 4, filled(5), 2)
	reads(t, s, 2, filled(6), 2)
	has(t, s, 1, 13, 2, 4)
	s = opened(t, d, 2)
	has(t, s, 1, 15, 2, 4)
	reads(t, s, 4, filled(3), 1)
	reads(t, s, 2, filled(4), 1)
}

// SD2: pages of all sizes and of all that layer 3 takes come back as they were written.
func TestPagesOfAllKinds(t *testing.T) {
	s, d := made(t, 40, 3)
	var l []page.Page
	for _, size := range []int{1, 2, 4, 12, 246, 247, 491, 492} {
		for _, count := range []int{0, 1, page.Room(size)} {
			p := page.Page{Kind: byte(size), Size: size}
			for i := range count {
				p.Records = append(p.Records, bytes.Repeat([]byte{byte(i)}, size))
			}
			l = append(l, p)
		}
	}
	for n, p := range l {
		lays(t, s, n, p)
	}
	done(t, "Commit", s.Commit())
	for _, s := range []*Shadow{s, opened(t, d, 1)} {
		for n, p := range l {
			reads(t, s, n, p, 1)
		}
	}
}

// SD2: a page that layer 3 does not take: nothing is done, and no sector need be free.
func TestWriteErrors(t *testing.T) {
	wrong := []page.Page{
		{}, {Size: -1}, {Size: 493}, {Size: math.MinInt}, {Size: math.MaxInt},
		{Size: 2, Records: [][]byte{{1, 2}, {1}}}, {Size: 2, Records: [][]byte{{1, 2, 3}}}, {Size: 1, Records: [][]byte{nil}},
		{Size: 492, Records: [][]byte{make([]byte, 492), make([]byte, 492)}}, {Size: 1, Records: slices.Repeat([][]byte{{1}}, 256)},
	}
	s, d := made(t, 6, 2)
	lays(t, s, 1, filled(1))
	done(t, "Commit", s.Commit())
	writes := d.Writes()
	for full := range 2 {
		for _, p := range wrong {
			for _, n := range []int{0, 1, MaxPages - 1} {
				fails(t, "Write of no page", s.Write(n, p), api.ErrArg)
			}
			fails(t, "Write of no page, of no number", s.Write(-1, p), api.ErrRange)
		}
		if full == 0 {
			has(t, s, 1, 2, 1)
			reads(t, s, 1, filled(1), 1)
			lays(t, s, 2, filled(2))
			lays(t, s, 3, filled(3))
			has(t, s, 1, 0, 1, 2, 3)
		}
	}
	if d.Writes() > writes+2 {
		t.Errorf("%d writes for two pages", d.Writes()-writes)
	}
}

// SD2: no sector is free: ErrFull, but of a page that was written since; one that was dropped since gave its sector away.
func TestWriteFull(t *testing.T) {
	s, _ := made(t, 7, 2)
	lays(t, s, 0, filled(0))
	done(t, "Commit", s.Commit()) // sectors 2 and 3
	lays(t, s, 1, filled(1))
	lays(t, s, 2, filled(2))
	lays(t, s, 0, filled(10))
	has(t, s, 1, 0, 0, 1, 2)
	fails(t, "Write of a new page", s.Write(3, filled(3)), api.ErrFull)
	for i := range 3 {
		lays(t, s, i, filled(20+i)) // each was written since
		reads(t, s, i, filled(20+i), 2)
	}
	drops(t, s, 0)
	has(t, s, 1, 1, 1, 2)
	lays(t, s, 3, filled(3)) // where that was
	has(t, s, 1, 0, 1, 2, 3)
	fails(t, "Write of a page that was written, and dropped", s.Write(0, filled(30)), api.ErrFull)
	drops(t, s, 3)
	lays(t, s, 0, filled(31))
	reads(t, s, 0, filled(31), 2)
	done(t, "Abort", s.Abort())
	has(t, s, 1, 3, 0)
	for i := range 3 {
		lays(t, s, 1+i, filled(i))
	}
	fails(t, "Write of a page that was not written since Abort", s.Write(0, filled(32)), api.ErrFull)
	drops(t, s, 0) // which is kept, and keeps its sector
	fails(t, "Write of a page that was dropped", s.Write(0, filled(33)), api.ErrFull)
	cannotRead(t, s, 0, api.ErrNone)
	has(t, s, 1, 0, 1, 2, 3)
}

// SD2: a Write that fails is as if it was not done.
func TestWriteFullStays(t *testing.T) {
	s, d := made(t, 6, 1)
	for n := range 3 {
		lays(t, s, n, filled(n))
	}
	done(t, "Commit", s.Commit()) // no sector is free
	has(t, s, 1, 0, 0, 1, 2)
	for n := range 3 {
		fails(t, "Write of a kept page", s.Write(n, filled(9)), api.ErrFull)
		reads(t, s, n, filled(n), 1)
	}
	fails(t, "Commit with no sector for the table", s.Commit(), api.ErrFull)
	has(t, s, 1, 0, 0, 1, 2)
	s = opened(t, d, 1)
	has(t, s, 1, 0, 0, 1, 2)
}

// Sectors that are taken are the free ones of the least numbers, by pages as they are written, by tables when all is kept.
func TestLeastFree(t *testing.T) {
	s, d := made(t, 16, 4)
	lays(t, s, 200, filled(1))    // 2
	lays(t, s, 5, filled(2))      // 3
	lays(t, s, 3, filled(3))      // 4
	lays(t, s, 200, filled(4))    // 2 still
	done(t, "Commit", s.Commit()) // tables: 5, 6
	stands(t, d, 2, 200, 1)
	stands(t, d, 3, 5, 1)
	stands(t, d, 4, 3, 1)
	drops(t, s, 5)
	lays(t, s, 5, filled(5)) // 7: 3 is kept
	lays(t, s, 1, filled(6)) // 8
	lays(t, s, 3, filled(7)) // 9
	drops(t, s, 1)
	drops(t, s, 5)
	lays(t, s, 3, filled(8))      // 9 still
	lays(t, s, 0, filled(9))      // 7
	lays(t, s, 5, filled(10))     // 8
	done(t, "Commit", s.Commit()) // tables: 10, 11
	has(t, s, 2, 8, 0, 3, 5, 200)
	stands(t, d, 2, 200, 1)
	stands(t, d, 7, 0, 2)
	stands(t, d, 8, 5, 2)
	stands(t, d, 9, 3, 2)
	s = opened(t, d, 4)
	for n := range 4 { // 3, 4, 5, 6, which nobody keeps any more
		lays(t, s, 300+n, filled(n))
	}
	done(t, "Commit", s.Commit()) // tables: 12, 13, 14
	for n := range 4 {
		stands(t, d, 3+n, 300+n, 3)
	}
	has(t, s, 3, 3, 0, 3, 5, 200, 300, 301, 302, 303)
	lays(t, s, 1, filled(11)) // 10
	done(t, "Abort", s.Abort())
	lays(t, s, 2, filled(12)) // 10 again
	lays(t, s, 4, filled(13)) // 11
	lays(t, s, 6, filled(14)) // 15
	has(t, s, 3, 0, 0, 2, 3, 4, 5, 6, 200, 300, 301, 302, 303)
	done(t, "Abort", s.Abort())
	lays(t, s, 6, filled(15)) // 10
	drops(t, s, 300)
	drops(t, s, 301)
	drops(t, s, 302)
	drops(t, s, 303)
	done(t, "Commit", s.Commit()) // tables: 11, 15
	stands(t, d, 10, 6, 4)
	has(t, s, 4, 7, 0, 3, 5, 6, 200) // of 14: five pages, two tables
}

// SD2: all pages there may be, on the greatest disk.
func TestAllPages(t *testing.T) {
	s, d := made(t, api.MaxSectors, 64)
	var all []int
	for n := range MaxPages {
		lays(t, s, n, filled(n))
		all = append(all, n)
	}
	done(t, "Commit", s.Commit())
	has(t, s, 1, api.MaxSectors-2-122-MaxPages, all...)
	s = opened(t, d, 1)
	has(t, s, 1, api.MaxSectors-2-122-MaxPages, all...)
	for n := 0; n < MaxPages; n += 61 {
		reads(t, s, n, filled(n), 1)
	}
	reads(t, s, MaxPages-1, filled(MaxPages-1), 1)
	for n := range MaxPages {
		drops(t, s, n)
	}
	has(t, s, 1, api.MaxSectors-2-122-MaxPages)
	done(t, "Commit", s.Commit())
	has(t, s, 2, api.MaxSectors-2)
	has(t, opened(t, d, 1), 2, api.MaxSectors-2)
}
