package bucket

import (
	"slices"
	"testing"

	"quilt/api"
	"quilt/page"
)

// fulls are the most pairs that there may be: of keys all over, of one key, and of keys that all lead to one bucket.
func fulls() map[string][]Pair {
	l := map[string][]Pair{"of one key": ofOneKey(9, 1<<17)}
	for i := range uint64(1 << 17) {
		l["all over"] = append(l["all over"], Pair{i << 40, 8})
		l["of one bucket"] = append(l["of one bucket"], Pair{keyOf(5<<52 | i), 8})
	}
	return l
}

// BU1: with 2^17 pairs there is no room for another one; of a pair that is there it is told that it is there.
func TestPutLimit(t *testing.T) {
	for what, l := range fulls() {
		x := madeOf(t, 20, l[:1<<17-1])
		fails(t, "Put, twice, with one less", x.Put(l[0].Key, l[0].Value), api.ErrTwice)
		puts(t, x, l[1<<17-1])
		before := x.Buckets()
		for _, p := range []Pair{{1, 0}, {9, 1 << 17}, {keyOf(5 << 52), 9}, {keyOf(77 << 52), 8}} {
			fails(t, "Put beyond the limit, "+what, x.Put(p.Key, p.Value), api.ErrLimit)
			if slices.Contains(x.Get(p.Key), p.Value) {
				t.Errorf("%s: %v is there beside the error", what, p)
			}
		}
		for _, p := range []Pair{l[0], l[70000], l[1<<17-1]} {
			fails(t, "Put, twice, at the limit, "+what, x.Put(p.Key, p.Value), api.ErrTwice)
		}
		fails(t, "Drop of what is not there, at the limit", x.Drop(1, 0), api.ErrNone)
		hasBuckets(t, "at the limit", x, before)
		isSound(t, x, 20)

		drops(t, x, l[70000])
		puts(t, x, Pair{1, 0})
		fails(t, "Put, at the limit again", x.Put(l[70000].Key, l[70000].Value), api.ErrLimit)
		drops(t, x, Pair{1, 0})
		puts(t, x, l[70000])
		if got := x.All(); len(got) != 1<<17 {
			t.Errorf("All, %s: %d pairs", what, len(got))
		}
		hasBuckets(t, "at the limit again", x, before)
	}
}

// BU3: 2^17 pairs are saved, and loaded; pages of one more are none of an index.
func TestSaveLimit(t *testing.T) {
	for what, l := range fulls() {
		x := madeOf(t, 20, l)
		pages := x.Save(73)
		if len(pages) != 3197 || len(pages[3195].Records) != 41 || len(pages[3196].Records) != 36 {
			t.Fatalf("Save at the limit: %d pages", len(pages))
		}
		loaded, err := Load(20, pages)
		if err != nil {
			t.Fatalf("Load at the limit, %s: %v", what, err)
		}
		if !slices.Equal(loaded.All(), x.All()) {
			t.Errorf("All of what was loaded, %s: other pairs", what)
		}
		hasBuckets(t, "of what was loaded", loaded, x.Buckets())
		fails(t, "Put to what was loaded", loaded.Put(1, 0), api.ErrLimit)
		drops(t, loaded, l[3])
		puts(t, loaded, Pair{1, 0})

		last := &pages[3196]
		full := slices.Clone(last.Records)
		last.Records = append(full, slices.Repeat([]byte{255}, 12))
		isNoIndex(t, "one pair more than there may be", pages)
		for len(last.Records) < 41 {
			last.Records = append(last.Records, append(slices.Repeat([]byte{255}, 11), byte(len(last.Records))))
		}
		slices.SortFunc(last.Records, slices.Compare)
		isNoIndex(t, "a full last page", pages)
		isNoIndex(t, "a page more", append(pages, page.Page{Kind: 73, Number: 3197, Size: 12, Records: [][]byte{slices.Repeat([]byte{255}, 12)}}))
	}
}
