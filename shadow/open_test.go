package shadow

import (
	"bytes"
	"math"
	"testing"

	"quilt/api"
	"quilt/disk"
	"quilt/page"
	"quilt/sum"
)

// noPage is a sector that is good, and no page.
func noPage() []byte {
	b, err := sum.Mark(bytes.Repeat([]byte{0xff}, 512))
	if err != nil {
		panic(err)
	}
	return b
}

func encoded(t *testing.T, p page.Page) []byte {
	t.Helper()
	b, err := page.Encode(p)
	done(t, "Encode", err)
	return b
}

func pageOn(t *testing.T, d *disk.Disk, sector int) page.Page {
	t.Helper()
	b, err := d.Read(sector)
	done(t, "Read of the disk", err)
	p, err := page.Decode(b)
	done(t, "Decode", err)
	return p
}

func puts(t *testing.T, d *disk.Disk, sector int, b []byte) {
	t.Helper()
	done(t, "Write of the disk", d.Write(sector, b))
	done(t, "Flush of the disk", d.Flush())
}

func rots(t *testing.T, d *disk.Disk, sector int) {
	t.Helper()
	done(t, "Rot", d.Rot(sector, 77, 4))
}

func cannotOpen(t *testing.T, what string, d *disk.Disk, want api.Errno) {
	t.Helper()
	for _, frames := range []int{1, 5} {
		s, err := Open(d, frames)
		notMade(t, "Open of "+what, s, err, want)
	}
}

// SD1: what was kept last is there, as often as it is opened.
func TestOpen(t *testing.T) {
	s, d := made(t, 30, 3)
	for i := range 6 {
		lays(t, s, i, filled(i))
		lays(t, s, 200, filled(100+i))
		done(t, "Commit", s.Commit())
		lays(t, s, 4, filled(77)) // not kept
		for frames := 1; frames < 4; frames++ {
			s = opened(t, d, frames)
			has(t, s, i+1, 28-2-1-(i+1), append([]int{0, 1, 2, 3, 4, 5}[:i+1:i+1], 200)...)
			reads(t, s, 200, filled(100+i), i+1)
			for n := range i + 1 {
				reads(t, s, n, filled(n), n+1)
			}
		}
	}
}

// SD1: neither root is one: noughts, any bytes, good bytes that are no page, pages of any other kind, tables.
func TestOpenWithoutRoot(t *testing.T) {
	cannotOpen(t, "noughts", disked(t, 4), api.ErrNone)
	s, kept := made(t, 6, 2)
	lays(t, s, 0, filled(0))
	done(t, "Commit", s.Commit())
	table, err := kept.Read(3)
	done(t, "Read of the disk", err)
	data, err := kept.Read(2)
	done(t, "Read of the disk", err)
	for _, b := range [][]byte{
		make([]byte, 512), bytes.Repeat([]byte{1}, 512), noPage(), encoded(t, page.Page{Size: 1}), encoded(t, filled(3)), table, data,
	} {
		s, d := made(t, 6, 2)
		lays(t, s, 0, filled(0))
		done(t, "Commit", s.Commit())
		puts(t, d, 0, b)
		has(t, opened(t, d, 2), 1, 2, 0) // root 1 is one, and of the greater epoch
		puts(t, d, 1, b)
		cannotOpen(t, "a disk without a root", d, api.ErrNone)
	}
	d := twoTables(t)
	p := pageOn(t, d, 1)
	p.Size, p.Records = 2, [][]byte{{0, 4}, {0, 5}}
	puts(t, d, 1, encoded(t, p))
	has(t, opened(t, d, 2), 0, 10) // none that was ever laid has such records: the other one counts
	puts(t, d, 0, encoded(t, p))
	cannotOpen(t, "a disk whose roots have other records", d, api.ErrNone)
	_, d = made(t, 6, 2)
	rots(t, d, 0)
	rots(t, d, 1)
	cannotOpen(t, "a disk whose roots are rotten", d, api.ErrNone)
}

// SD1: of two roots that are good the one with the greater epoch counts; of one that rots, or is torn, the other one.
func TestOpenOfTornRoot(t *testing.T) {
	for commits := 1; commits < 6; commits++ {
		for _, newest := range []bool{true, false} {
			s, d := made(t, 12, 2)
			for i := range commits {
				lays(t, s, i, filled(i))
				done(t, "Commit", s.Commit())
			}
			rot, epoch := commits%2, commits-1
			if !newest {
				rot, epoch = 1-rot, commits
			}
			rots(t, d, rot)
			s = opened(t, d, 2)
			arePages(t, s, []int{0, 1, 2, 3, 4, 5}[:epoch]...)
			if s.Epoch() != epoch {
				t.Errorf("Epoch %d, want %d", s.Epoch(), epoch)
			}
			for n := range epoch {
				reads(t, s, n, filled(n), n+1)
			}
			lays(t, s, 0, filled(50)) // and it goes on
			done(t, "Commit", s.Commit())
			s = opened(t, d, 2)
			reads(t, s, 0, filled(50), epoch+1)
			rots(t, d, 1-rot)
			s = opened(t, d, 2) // the rotten one was laid anew
			reads(t, s, 0, filled(50), epoch+1)
		}
	}
}

// twoTables is a disk on which root 1 counts: page 0 is kept in sector 2, 123 in 3; their tables in 4 and 5. Of 12 sectors 6 are free.
func twoTables(t *testing.T) *disk.Disk {
	t.Helper()
	s, d := made(t, 12, 3)
	lays(t, s, 0, filled(0))
	lays(t, s, 123, filled(1))
	done(t, "Commit", s.Commit())
	has(t, opened(t, d, 1), 1, 6, 0, 123)
	return d
}

// SD1: a table that is not good, ahead of all that can't be.
func TestOpenOfRottenTable(t *testing.T) {
	for _, table := range []int{4, 5} {
		d := twoTables(t)
		rots(t, d, table)
		cannotOpen(t, "a rotten table", d, api.ErrSum)
		puts(t, d, 9-table, noPage())
		cannotOpen(t, "a rotten table beside no table", d, api.ErrSum)
		root := pageOn(t, d, 1)
		root.Records = append(root.Records, []byte{0, 0, 0, 200})
		puts(t, d, 1, encoded(t, root))
		cannotOpen(t, "a rotten table, and one beyond the disk", d, api.ErrSum)
		rots(t, d, 1)
		has(t, opened(t, d, 1), 0, 10) // the other root has no tables
	}
	d := twoTables(t)
	rots(t, d, 2)
	cannotRead(t, opened(t, d, 1), 0, api.ErrSum) // a page is not asked for
}

// SD1: a table that tells what can't be.
func TestOpenOfWrongTable(t *testing.T) {
	set := func(at int, sector ...byte) func(p *page.Page) {
		return func(p *page.Page) { p.Records[at] = sector }
	}
	for what, change := range map[string]func(p *page.Page){
		"a page of a root":         set(1, 0, 0, 0, 1),
		"a page at a table":        set(1, 0, 0, 0, 4),
		"a page at the other one":  set(7, 0, 0, 0, 5),
		"two pages at one":         set(122, 0, 0, 0, 2),
		"a page of another table":  set(1, 0, 0, 0, 3),
		"a page beyond the disk":   set(1, 0, 0, 0, 12),
		"a page far beyond":        set(0, 0x7f, 0xff, 0xff, 0xff),
		"a page as far as can be":  set(0, 0xff, 0xff, 0xff, 0xff),
		"a table of another kind":  func(p *page.Page) { p.Kind++ },
		"a table of another place": func(p *page.Page) { p.Number++ },
		"a table of a later epoch": func(p *page.Page) { p.Epoch++ },
		"a table of another size":  func(p *page.Page) { p.Size, p.Records = 3, nil },
		"a table of too few":       func(p *page.Page) { p.Records = p.Records[:122] },
		"a table of none":          func(p *page.Page) { p.Records = nil },
	} {
		d := twoTables(t)
		p := pageOn(t, d, 4)
		change(&p)
		puts(t, d, 4, encoded(t, p))
		cannotOpen(t, what, d, api.ErrForm)
	}
	for _, sector := range []int{0, 1, 2, 5} { // what is good, and anything else
		d := twoTables(t)
		puts(t, d, 4, encoded(t, pageOn(t, d, sector)))
		cannotOpen(t, "a table that is none", d, api.ErrForm)
	}
	d := twoTables(t)
	puts(t, d, 4, noPage())
	cannotOpen(t, "a table that is no page", d, api.ErrForm)
	d = twoTables(t)
	last := pageOn(t, d, 5)
	last.Records[0] = make([]byte, 4)
	puts(t, d, 5, encoded(t, last))
	cannotOpen(t, "a last table without pages", d, api.ErrForm)
	last.Records[122] = []byte{0, 0, 0, 3}
	puts(t, d, 5, encoded(t, last))
	has(t, opened(t, d, 1), 1, 6, 0, 245) // which can be
}

// SD1: a root that tells what can't be, and is of the greater epoch; the other one is as it was.
func TestOpenOfWrongRoot(t *testing.T) {
	set := func(at int, sector ...byte) func(p *page.Page) {
		return func(p *page.Page) { p.Records[at] = sector }
	}
	for what, change := range map[string]func(p *page.Page){
		"a table at a root":       set(0, 0, 0, 0, 0),
		"a table at the other":    set(0, 0, 0, 0, 1),
		"a table at a page":       set(0, 0, 0, 0, 2),
		"two tables at one":       set(0, 0, 0, 0, 5),
		"a table beyond the disk": set(1, 0, 0, 0, 12),
		"a table far beyond":      set(1, 0xff, 0xff, 0xff, 0xff),
		"tables turned":           func(p *page.Page) { p.Records[0], p.Records[1] = p.Records[1], p.Records[0] },
		"no last table, too few":  func(p *page.Page) { p.Records = p.Records[1:] },
		"another epoch":           func(p *page.Page) { p.Epoch++ },
		"the last epoch":          func(p *page.Page) { p.Epoch = math.MaxUint64 },
		"a number":                func(p *page.Page) { p.Number = 1 },
	} {
		d := twoTables(t)
		p := pageOn(t, d, 1)
		change(&p)
		puts(t, d, 1, encoded(t, p))
		cannotOpen(t, what, d, api.ErrForm)
	}
	d := twoTables(t)
	p := pageOn(t, d, 1)
	p.Records = p.Records[:1]
	puts(t, d, 1, encoded(t, p))
	has(t, opened(t, d, 1), 1, 8, 0) // which can be
	p.Records, p.Epoch = nil, math.MaxInt64+1
	puts(t, d, 1, encoded(t, p))
	cannotOpen(t, "an epoch that can't be", d, api.ErrForm)
}

// SD1: one more table than there may be leads to numbers that can't be.
func TestOpenOfTooManyTables(t *testing.T) {
	s, d := made(t, 300, 3)
	lays(t, s, MaxPages-1, filled(0))
	done(t, "Commit", s.Commit())
	p := pageOn(t, d, 1)
	if len(p.Records) != 122 {
		t.Fatalf("a root of %d tables", len(p.Records))
	}
	p.Records = append(p.Records, []byte{0, 0, 1, 0})
	puts(t, d, 1, encoded(t, p))
	more := pageOn(t, d, 3)
	more.Number = 122
	more.Records[0] = []byte{0, 0, 0, 200}
	puts(t, d, 256, encoded(t, more))
	cannotOpen(t, "a root of 123 tables", d, api.ErrForm)
}

// SD1: all of it on a disk that has fewer sectors than the one on which it was kept.
func TestOpenOfCutDisk(t *testing.T) {
	whole := twoTables(t)
	for _, sectors := range []int{4, 5, 6} {
		d := disked(t, sectors)
		for i := range sectors {
			b, err := whole.Read(i)
			done(t, "Read of the disk", err)
			puts(t, d, i, b)
		}
		if sectors < 6 {
			cannotOpen(t, "a disk that was cut", d, api.ErrForm)
		} else {
			has(t, opened(t, d, 1), 1, 0, 0, 123)
		}
	}
}
