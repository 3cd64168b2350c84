package bucket

import (
	"bytes"
	"math"
	"slices"
	"testing"

	"quilt/api"
	"quilt/chance"
	"quilt/page"
)

// some are so many pairs, in order, with bytes that differ all over their keys.
func some(n int) []Pair {
	var l []Pair
	for i := range uint64(n) {
		l = append(l, Pair{i / 3 * 0x0081828384858687, uint32(i%3) << 30})
	}
	return l
}

// laidOut are the pages of pairs by the chapter, byte behind byte: another way than the package's own, to hold it against.
func laidOut(kind byte, pairs []Pair) []page.Page {
	var l []page.Page
	for i, p := range pairs {
		if i%41 == 0 {
			l = append(l, page.Page{Kind: kind, Number: uint32(i / 41), Size: 12})
		}
		l[i/41].Records = append(l[i/41].Records, []byte{
			byte(p.Key >> 56), byte(p.Key >> 48), byte(p.Key >> 40), byte(p.Key >> 32), byte(p.Key >> 24), byte(p.Key >> 16), byte(p.Key >> 8), byte(p.Key),
			byte(p.Value >> 24), byte(p.Value >> 16), byte(p.Value >> 8), byte(p.Value),
		})
	}
	return l
}

func isSame(a, b []page.Page) bool {
	return slices.EqualFunc(a, b, func(p, q page.Page) bool {
		return p.Kind == q.Kind && p.Number == q.Number && p.Epoch == q.Epoch && p.Size == q.Size && slices.EqualFunc(p.Records, q.Records, bytes.Equal)
	})
}

// copied are pages that share nothing with l.
func copied(l []page.Page) []page.Page {
	l = slices.Clone(l)
	for i := range l {
		l[i].Records = slices.Clone(l[i].Records)
		for j := range l[i].Records {
			l[i].Records[j] = bytes.Clone(l[i].Records[j])
		}
	}
	return l
}

func loaded(t *testing.T, room int, l []page.Page) *Index {
	t.Helper()
	x, err := Load(room, l)
	if err != nil || x == nil {
		t.Fatalf("Load of %d pages: %v, %v", len(l), x, err)
	}
	return x
}

func isNoIndex(t *testing.T, what string, l []page.Page) {
	t.Helper()
	x, err := Load(20, l)
	fails(t, "Load of "+what, err, api.ErrForm)
	if x != nil {
		t.Errorf("Load of %s: an index beside the error", what)
	}
}

// BU3: a page whose bytes are told here one by one.
func TestSaveKnown(t *testing.T) {
	x := madeOf(t, 1, []Pair{{math.MaxUint64, 0}, {0x0102030405060708, 0x090a0b0d}, {0x0102030405060708, 0x090a0b0c}})
	want := []page.Page{{Kind: 73, Size: 12, Records: [][]byte{
		{1, 2, 3, 4, 5, 6, 7, 8, 9, 10, 11, 12},
		{1, 2, 3, 4, 5, 6, 7, 8, 9, 10, 11, 13},
		{255, 255, 255, 255, 255, 255, 255, 255, 0, 0, 0, 0},
	}}}
	if got := x.Save(73); !isSame(got, want) {
		t.Errorf("Save: %v, want %v", got, want)
	}
}

// BU3: pages of no pairs, of as many as a page has, and of one more; of each kind and each room they are the same but for the kind.
func TestSave(t *testing.T) {
	c := chance.Chance(1)
	for _, n := range []int{0, 1, 2, 40, 41, 42, 81, 82, 83, 123, 1000} {
		pairs := some(n)
		for _, room := range []int{1, 20, 40} {
			x := madeOf(t, room, shuffled(&c, pairs))
			before := x.Buckets()
			for _, kind := range []byte{0, 1, 73, 255} {
				l := x.Save(kind)
				if !isSame(l, laidOut(kind, pairs)) {
					t.Fatalf("Save(%d) of %d pairs: other pages", kind, n)
				}
				if len(l) != (n+40)/41 {
					t.Errorf("Save of %d pairs: %d pages", n, len(l))
				}
				for _, p := range l {
					if page.Check(p) != nil {
						t.Errorf("Save of %d pairs: a page that may not be", n)
					}
				}
			}
			hasPairs(t, "behind Save", x, pairs)
			hasBuckets(t, "behind Save", x, before)
		}
	}
}

// BU3: Load of Save's pages is an index of the pairs, put one by one, of whatever room and kind.
func TestLoad(t *testing.T) {
	c := chance.Chance(2)
	for _, n := range []int{0, 1, 2, 40, 41, 42, 82, 83, 500} {
		pairs := some(n)
		saved := madeOf(t, 20, shuffled(&c, pairs))
		for _, kind := range []byte{0, 73, 255} {
			for _, room := range []int{1, 2, 20, 40} {
				x := loaded(t, room, saved.Save(kind))
				hasPairs(t, "of what was loaded", x, pairs)
				hasBuckets(t, "of what was loaded", x, madeOf(t, room, pairs).Buckets())
				if !isSame(x.Save(kind), laidOut(kind, pairs)) {
					t.Errorf("Save of what was loaded, of %d pairs: other pages", n)
				}
			}
		}
	}
	hasBuckets(t, "of no pages", loaded(t, 1, nil), [][2]int{{0, 0}})
	hasBuckets(t, "of an empty list", loaded(t, 1, []page.Page{}), [][2]int{{0, 0}})
}

// BU3: buckets that stay behind Drop are not saved.
func TestLoadBehindDrop(t *testing.T) {
	x := madeOf(t, 1, some(50))
	for _, p := range some(50)[1:] {
		drops(t, x, p)
	}
	x = loaded(t, 1, x.Save(1))
	hasPairs(t, "of what was loaded", x, some(1))
	hasBuckets(t, "of what was loaded", x, [][2]int{{0, 1}})
}

// BU3: an index that was loaded goes on as each other one.
func TestLoadGoesOn(t *testing.T) {
	for _, room := range []int{1, 20} {
		all := some(300)
		x := loaded(t, room, laidOut(73, all[:200]))
		for i, p := range all {
			if i < 200 {
				fails(t, "Put of what was loaded", x.Put(p.Key, p.Value), api.ErrTwice)
				continue
			}
			fails(t, "Drop of what was not loaded", x.Drop(p.Key, p.Value), api.ErrNone)
			puts(t, x, p)
		}
		hasPairs(t, "of what was loaded, and more", x, all)
		hasBuckets(t, "of what was loaded, and more", x, madeOf(t, room, all).Buckets())
		isSound(t, x, room)
		for _, p := range all[:100] {
			drops(t, x, p)
		}
		hasPairs(t, "of what was loaded, and less", x, all[100:])
		if !isSame(x.Save(4), laidOut(4, all[100:])) {
			t.Error("Save of what was loaded, and went on: other pages")
		}
	}
}

// BU3: a room that can't be is told ahead of pages that can't be.
func TestLoadRoom(t *testing.T) {
	for _, room := range []int{math.MinInt, -1, 0, 41, math.MaxInt} {
		for _, l := range [][]page.Page{nil, laidOut(73, some(50)), {{}}, {{Kind: 1, Number: 7, Size: 12}}} {
			x, err := Load(room, l)
			fails(t, "Load with a room that can't be", err, api.ErrArg)
			if x != nil {
				t.Errorf("Load(%d): an index beside the error", room)
			}
		}
	}
}

// BU3: pages in another order, a page less or twice.
func TestLoadOtherPages(t *testing.T) {
	l := laidOut(73, some(150)) // four pages, the last one not full
	loaded(t, 20, l)
	for i := range l {
		for j := range i {
			other := slices.Clone(l)
			other[i], other[j] = l[j], l[i]
			isNoIndex(t, "pages in another order", other)
			other[i].Number, other[j].Number = l[i].Number, l[j].Number
			isNoIndex(t, "pages in another order, by other numbers", other)
		}
		less := slices.Delete(slices.Clone(l), i, i+1)
		if i < len(l)-1 {
			isNoIndex(t, "a page less", less)
		} else {
			hasPairs(t, "without the last page", loaded(t, 20, less), some(123))
		}
		isNoIndex(t, "a page twice", slices.Insert(slices.Clone(l), i, l[i]))
		twice := append(slices.Clone(l[:i+1]), l[i])
		twice[i+1].Number++
		isNoIndex(t, "a page twice, by its own number", twice)
	}
	for n := range 4 {
		isNoIndex(t, "a page without pairs", append(l[:n:n], page.Page{Kind: 73, Number: uint32(n), Size: 12}))
	}
	isNoIndex(t, "a page of nothing", []page.Page{{}})
}

// BU3: other Kinds, Numbers, Epochs and Sizes, of each page.
func TestLoadOtherHeads(t *testing.T) {
	l := laidOut(73, some(150))
	for i := range l {
		for what, change := range map[string]func(p *page.Page){
			"a Kind of its own":         func(p *page.Page) { p.Kind = 74 },
			"the Kind 0":                func(p *page.Page) { p.Kind = 0 },
			"a Number too great":        func(p *page.Page) { p.Number++ },
			"a Number too small":        func(p *page.Page) { p.Number-- },
			"a Number far off":          func(p *page.Page) { p.Number += 1 << 31 },
			"an Epoch":                  func(p *page.Page) { p.Epoch = 1 },
			"a great Epoch":             func(p *page.Page) { p.Epoch = 1 << 63 },
			"the Size 11":               func(p *page.Page) { p.Size = 11 },
			"the Size 13":               func(p *page.Page) { p.Size = 13 },
			"the Size 0":                func(p *page.Page) { p.Size = 0 },
			"a Size below 0":            func(p *page.Page) { p.Size = -12 },
			"a Size of many more bytes": func(p *page.Page) { p.Size = 1<<32 + 12 },
			"a Size of a byte's round":  func(p *page.Page) { p.Size = 256 + 12 },
			"the Size of all its bytes": func(p *page.Page) { p.Size = 12 * len(p.Records) },
			"records of its other Size": func(p *page.Page) { p.Size = 1; p.Records = [][]byte{{1}} },
		} {
			other := copied(l)
			change(&other[i])
			isNoIndex(t, what, other)
		}
	}
	for i := range l {
		l[i].Kind = 1
		if i < len(l)-1 {
			isNoIndex(t, "two Kinds", l)
		}
	}
	hasPairs(t, "of another Kind", loaded(t, 20, l), some(150))
}

// BU3: records that are no pairs, pairs that are not in the order of All, and pages that have not as many as they should.
func TestLoadOtherRecords(t *testing.T) {
	l := laidOut(73, some(150))
	for i := range l {
		for _, j := range []int{0, 1, len(l[i].Records) - 1} {
			for what, r := range map[string][]byte{"nil": nil, "too short": make([]byte, 11), "too long": make([]byte, 13), "short": l[i].Records[j][:11], "long": append(l[i].Records[j][:12:12], 0), "twice as long": make([]byte, 24)} {
				other := copied(l)
				other[i].Records[j] = r
				isNoIndex(t, "a record that is "+what, other)
			}
			for k := range len(l[i].Records) {
				if k == j {
					continue
				}
				other := copied(l)
				records := other[i].Records
				records[j], records[k] = records[k], records[j]
				isNoIndex(t, "pairs that are not in order", other)
				records[j] = bytes.Clone(records[k])
				isNoIndex(t, "a pair twice", other)
			}
			other := copied(l)
			other[i].Records = slices.Delete(other[i].Records, j, j+1)
			if i < len(l)-1 {
				isNoIndex(t, "a page but the last one that is not full", other)
			} else {
				hasPairs(t, "of a record less, of the last page", loaded(t, 20, other), slices.Delete(some(150), 123+j, 124+j))
			}
		}
	}
	// All of its pairs in order, but parted otherwise.
	other := copied(l)
	other[1].Records = other[1].Records[:40]
	other[2].Records = append([][]byte{l[1].Records[40]}, other[2].Records...)
	isNoIndex(t, "a page that has one pair of the page behind it", other)
	one := laidOut(73, some(41))
	one[0].Records = append(one[0].Records, laidOut(73, some(42))[1].Records[0])
	isNoIndex(t, "42 pairs in a page", one)
	isNoIndex(t, "the last page that is not full, and one behind it", []page.Page{laidOut(73, some(40))[0], {Kind: 73, Number: 1, Size: 12, Records: laidOut(73, some(42))[1].Records}})
}
