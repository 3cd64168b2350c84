package shadow

import (
	"bytes"
	"slices"
	"testing"

	"quilt/page"
)

// spare is a page whose records stand in one list with room behind each, and that list.
func spare() (page.Page, []byte) {
	whole := []byte("abcdefghijklmnopqrst")
	l := [][]byte{whole[0:3], whole[5:8], whole[10:13], nil}
	return page.Page{Kind: 5, Number: 6, Epoch: 7, Size: 3, Records: l[:3]}, whole
}

// Rule 3: what is handed in stays as it is, its spare room too, and is not kept.
func TestHandedInStays(t *testing.T) {
	s, _ := made(t, 10, 3)
	want, _ := spare()
	for kept := range 2 {
		p, whole := spare()
		lays(t, s, 4, p)
		if !isSame(p, want) || p.Records[:4][3] != nil || string(whole) != "abcdefghijklmnopqrst" {
			t.Fatal("Write changed what it was given")
		}
		for i := range whole {
			whole[i] ^= 0xff
		}
		p.Records[0], p.Records[1] = nil, nil
		reads(t, s, 4, want, kept+1)
		done(t, "Commit", s.Commit())
		reads(t, s, 4, want, kept+1)
	}
}

// Rule 3: an answer shares no memory with the Shadow, nor with another answer, spare room too.
func TestAnswersApart(t *testing.T) {
	s, d := made(t, 10, 3)
	want, _ := spare()
	lays(t, s, 4, want)
	lays(t, s, 9, want)
	for kept := range 2 {
		one, err := s.Read(4)
		done(t, "Read", err)
		other, err := s.Read(4)
		done(t, "Read", err)
		for _, r := range one.Records {
			r = r[:cap(r)]
			for i := range r {
				r[i] ^= 0xff
			}
		}
		if !bytes.Equal(one.Records[1], []byte{'f' ^ 0xff, 'g' ^ 0xff, 'h' ^ 0xff}) {
			t.Error("two records of an answer share memory")
		}
		clear(one.Records[:cap(one.Records)])
		for _, p := range []page.Page{other, must(t, s, 4)} {
			p.Number, p.Epoch = want.Number, want.Epoch
			if !isSame(p, want) {
				t.Errorf("two answers of Read share memory: %v", p)
			}
		}
		l, again := s.Pages(), s.Pages()
		clear(l[:cap(l)])
		if !slices.Equal(again, []int{4, 9}) {
			t.Error("two answers of Pages share memory")
		}
		if kept == 0 {
			done(t, "Commit", s.Commit())
		}
		arePages(t, s, 4, 9)
	}
	l := s.Pages()
	drops(t, s, 4)
	if !slices.Equal(l, []int{4, 9}) {
		t.Error("an answer of Pages changed behind it")
	}
	done(t, "Abort", s.Abort())
	for _, s := range []*Shadow{s, opened(t, d, 1)} {
		reads(t, s, 4, want, 1)
		reads(t, s, 9, want, 1)
	}
}

func must(t *testing.T, s *Shadow, n int) page.Page {
	t.Helper()
	p, err := s.Read(n)
	done(t, "Read", err)
	return p
}

// Rule 4: two that were done the same to have all the same, on the disk too; two on disks of their own share nothing.
func TestAlone(t *testing.T) {
	tell := func(s *Shadow) {
		for i := range 40 {
			lays(t, s, i*7%20, filled(i))
			if i%6 == 5 {
				drops(t, s, i*7%20)
			}
			if i%9 == 8 {
				done(t, "Commit", s.Commit())
			}
		}
	}
	s, d := made(t, 60, 3)
	tell(s)
	for range 5 {
		r, e := made(t, 60, 3)
		idle, _ := made(t, 60, 3)
		tell(r)
		has(t, r, s.Epoch(), s.Free(), s.Pages()...)
		has(t, idle, 0, 58)
		if !slices.Equal(d.Pending(), e.Pending()) || d.Writes() != e.Writes() {
			t.Errorf("the disks were not done the same to")
		}
		for i := range 60 {
			a, err := d.Read(i)
			done(t, "Read of the disk", err)
			b, err := e.Read(i)
			done(t, "Read of the disk", err)
			if !bytes.Equal(a, b) {
				t.Errorf("sector %d is not the same", i)
			}
		}
	}
}
