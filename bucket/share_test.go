package bucket

import (
	"bytes"
	"slices"
	"testing"

	"quilt/api"
	"quilt/chance"
	"quilt/page"
)

// A nil Index: ErrArg, and nothing.
func TestNil(t *testing.T) {
	var x *Index
	fails(t, "Put", x.Put(0, 0), api.ErrArg)
	fails(t, "Drop", x.Drop(0, 0), api.ErrArg)
	if x.Get(0) != nil || x.All() != nil || x.Depth() != 0 || x.Buckets() != nil || x.Save(73) != nil {
		t.Error("something of nil")
	}
}

// spoil writes over pages, and all the spare room of their lists.
func spoil(l []page.Page) {
	for _, p := range l[:cap(l)] {
		for _, r := range p.Records[:cap(p.Records)] {
			r = r[:cap(r)]
			for i := range r {
				r[i] ^= 0xff
			}
		}
		clear(p.Records[:cap(p.Records)])
	}
	clear(l[:cap(l)])
}

// Rule 3: what is answered shares nothing with the index, nor with another answer, spare room too.
func TestAnswersApart(t *testing.T) {
	c := chance.Chance(1)
	pairs := some(200)
	for _, room := range []int{1, 40} {
		x := madeOf(t, room, shuffled(&c, pairs))
		before := x.Buckets()
		for _, p := range pairs {
			want := x.Get(p.Key)
			got := x.Get(p.Key)
			clear(got[:cap(got)])
			gets(t, x, p.Key, want...)
		}
		for range 2 {
			got := x.All()
			clear(got[:cap(got)])
			told := x.Buckets()
			clear(told[:cap(told)])
			spoil(x.Save(73))
		}
		hasPairs(t, "behind answers that were changed", x, pairs)
		hasBuckets(t, "behind answers that were changed", x, before)
		if !isSame(x.Save(73), laidOut(73, pairs)) {
			t.Error("Save behind answers that were changed: other pages")
		}
	}
}

// Rule 3: an answer stays as it is when the index goes on.
func TestAnswersStay(t *testing.T) {
	x := madeOf(t, 40, []Pair{{5, 10}, {5, 20}, {6, 30}})
	values, all, told, saved := x.Get(5), x.All(), x.Buckets(), x.Save(73)
	drops(t, x, Pair{5, 10})
	for v := range uint32(50) {
		puts(t, x, Pair{5, 100 + v})
		puts(t, x, Pair{6, 100 + v})
	}
	if !slices.Equal(values, []uint32{10, 20}) || !slices.Equal(all, []Pair{{5, 10}, {5, 20}, {6, 30}}) || !slices.Equal(told, [][2]int{{0, 3}}) ||
		!isSame(saved, laidOut(73, []Pair{{5, 10}, {5, 20}, {6, 30}})) {
		t.Errorf("answers that changed: %v, %v, %v, %v", values, all, told, saved)
	}
}

// Rule 3: no two lists of Save's pages share memory, spare room too.
func TestSaveApart(t *testing.T) {
	pairs := some(100)
	x := madeOf(t, 20, pairs)
	got, want := x.Save(73), laidOut(73, pairs)
	for i := range got {
		for j, r := range got[i].Records {
			r = r[:cap(r)]
			for k := range r {
				r[k] ^= 0xff
			}
			for k := range want[i].Records[j] {
				want[i].Records[j][k] ^= 0xff
			}
			if !isSame(got, want) {
				t.Fatalf("record %d of page %d shares memory with another", j, i)
			}
		}
	}
	for i := range got {
		_ = append(got[i].Records, []byte("spare"))
		if !isSame(got, want) {
			t.Fatalf("page %d shares its spare room with another", i)
		}
	}
}

// Rule 3: Load leaves its pages as they are, the spare room of their lists too, and keeps none of them.
func TestLoadLeavesPages(t *testing.T) {
	pairs := some(100)
	whole := append(laidOut(73, pairs), page.Page{Kind: 9, Records: [][]byte{{1}}})
	for i := range whole {
		for j, r := range whole[i].Records {
			whole[i].Records[j] = append(bytes.Clone(r), "spare"...)[:len(r)]
		}
		whole[i].Records = append(whole[i].Records, []byte("spare"))[:len(whole[i].Records)]
	}
	before := copied(whole)
	x := loaded(t, 20, whole[:3])
	isNoIndex(t, "a page more", whole)
	if !isSame(whole, before) {
		t.Error("Load changed its pages")
	}
	for _, p := range whole {
		if string(p.Records[:len(p.Records)+1][len(p.Records)]) != "spare" {
			t.Error("Load changed the spare room of its pages' records")
		}
		for _, r := range p.Records {
			if string(r[len(r):len(r)+5]) != "spare" {
				t.Error("Load changed the spare room of its records")
			}
		}
	}
	spoil(whole)
	hasPairs(t, "behind pages that were changed", x, pairs)
	if !isSame(x.Save(73), laidOut(73, pairs)) {
		t.Error("Save behind pages that were changed: other ones")
	}
}
