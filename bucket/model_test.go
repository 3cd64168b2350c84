package bucket

import (
	"cmp"
	"errors"
	"fmt"
	"slices"
	"strings"
	"testing"

	"quilt/api"
	"quilt/chance"
	"quilt/hash"
)

// model is an index as the chapter tells it: its pairs in a list, and what beginnings were split.
type model struct {
	room  int
	pairs []Pair
	split map[string]int
}

func bitsOf(key uint64) string { return fmt.Sprintf("%064b", hash.Mix(key)) }

func (m *model) in(beginning string) int {
	n := 0
	for _, p := range m.pairs {
		if strings.HasPrefix(bitsOf(p.Key), beginning) {
			n++
		}
	}
	return n
}

func (m *model) put(p Pair) error {
	if slices.Contains(m.pairs, p) {
		return api.ErrTwice
	}
	m.pairs = append(m.pairs, p)
	for depth := 0; depth < 12; depth++ {
		beginning := bitsOf(p.Key)[:depth]
		if m.split[beginning] == 0 && m.in(beginning) > m.room {
			m.split[beginning] = 1
		}
		if m.split[beginning] == 0 {
			break
		}
	}
	return nil
}

func (m *model) drop(p Pair) error {
	at := slices.Index(m.pairs, p)
	if at < 0 {
		return api.ErrNone
	}
	m.pairs = slices.Delete(m.pairs, at, at+1)
	return nil
}

func (m *model) get(key uint64) []uint32 {
	var values []uint32
	for _, p := range m.pairs {
		if p.Key == key {
			values = append(values, p.Value)
		}
	}
	slices.Sort(values)
	return values
}

func (m *model) all() []Pair {
	return slices.SortedFunc(slices.Values(m.pairs), func(a, b Pair) int {
		return cmp.Or(cmp.Compare(a.Key, b.Key), cmp.Compare(a.Value, b.Value))
	})
}

func (m *model) buckets(beginning string) [][2]int {
	if m.split[beginning] == 0 {
		return [][2]int{{len(beginning), m.in(beginning)}}
	}
	return append(m.buckets(beginning+"0"), m.buckets(beginning+"1")...)
}

// isSound holds what an index tells of its buckets against its pairs: each beginning is there once, has all its pairs, and is not too full.
func isSound(t *testing.T, x *Index, room int) {
	t.Helper()
	var firsts [1 << 12]int
	for _, p := range x.All() {
		firsts[hash.Mix(p.Key)>>52]++
	}
	at := 0
	for _, b := range x.Buckets() {
		if b[0] < 0 || b[0] > 12 || at+1<<(12-b[0]) > 1<<12 {
			t.Fatalf("Buckets: one of depth %d, behind %d of 4096 beginnings", b[0], at)
		}
		n := 0
		for range 1 << (12 - b[0]) {
			n += firsts[at]
			at++
		}
		if n != b[1] {
			t.Fatalf("Buckets: one of depth %d has %d pairs, but there are %d", b[0], b[1], n)
		}
		if n > room && b[0] < 12 {
			t.Fatalf("a bucket of depth %d is too full: %d pairs", b[0], n)
		}
	}
	if at != 1<<12 {
		t.Fatalf("Buckets: only %d of 4096 beginnings", at)
	}
}

// follows does the same to an index and to a model, as often as told, and holds their answers against each other.
func follows(t *testing.T, c *chance.Chance, room, times int, pairs func() Pair) {
	t.Helper()
	x, m := made(t, room), &model{room: room, split: map[string]int{}}
	for i := range times {
		p := pairs()
		name, got, want := "Put", error(nil), error(nil)
		if c.Below(times) > i/2 { // more is dropped as time goes by
			got, want = x.Put(p.Key, p.Value), m.put(p)
		} else {
			name, got, want = "Drop", x.Drop(p.Key, p.Value), m.drop(p)
		}
		if (got == nil) != (want == nil) || !errors.Is(got, want) {
			t.Fatalf("%s(%x, %d), of room %d: %v, want %v", name, p.Key, p.Value, room, got, want)
		}
		gets(t, x, p.Key, m.get(p.Key)...)
		if i%9 == 0 {
			hasPairs(t, "as time goes by", x, m.all())
			hasBuckets(t, "as time goes by", x, m.buckets(""))
			isSound(t, x, room)
		}
		if t.Failed() {
			t.Fatalf("behind %d steps, of room %d", i+1, room)
		}
	}
}

// BU4: whatever is put and dropped, what was put, and not dropped, is there, and nothing else; no bucket is too full.
func TestModel(t *testing.T) {
	c := chance.Chance(1)
	ways := []func() Pair{
		func() Pair { return Pair{uint64(c.Below(200)), uint32(c.Below(2))} },
		func() Pair { return Pair{uint64(c.Below(4)), uint32(c.Below(40))} },
		func() Pair { return Pair{keyOf(uint64(c.Below(40)) << 50), uint32(c.Below(4))} },
		func() Pair { return Pair{keyOf(1<<(c.Below(64)) - 1), uint32(c.Below(5))} },
		func() Pair { return Pair{keyOf(^uint64(0) << c.Below(64)), uint32(c.Below(5))} },
	}
	for _, room := range []int{1, 2, 3, 8, 20, 40} {
		for _, pairs := range ways {
			follows(t, &c, room, 300, pairs)
		}
	}
}

// BU4: of many pairs all are there, and no bucket is too full, of each room, as they come and as they go.
func TestManyPairs(t *testing.T) {
	c := chance.Chance(2)
	var l []Pair
	for i := range 6000 {
		l = append(l, Pair{uint64(i) * uint64(i), uint32(i % 7)})
	}
	for _, room := range []int{1, 2, 7, 40} {
		order := shuffled(&c, l)
		x := madeOf(t, room, order)
		isSound(t, x, room)
		hasPairs(t, "of many", x, l)
		for _, p := range order[:5000] {
			drops(t, x, p)
		}
		isSound(t, x, room)
		for _, p := range order[:5000] {
			gets(t, x, p.Key)
		}
		for _, p := range order[5000:] {
			gets(t, x, p.Key, p.Value)
		}
	}
}

// Rule 4: pairs put in another order are the same index.
func TestOrderOfPuts(t *testing.T) {
	c := chance.Chance(3)
	var l []Pair
	for range 400 {
		l = append(l, Pair{keyOf(uint64(c.Below(1<<9)) << 51), uint32(len(l))})
	}
	for _, room := range []int{1, 6, 40} {
		x := madeOf(t, room, l)
		for range 5 {
			other := madeOf(t, room, shuffled(&c, l))
			hasPairs(t, "put in another order", other, x.All())
			hasBuckets(t, "put in another order", other, x.Buckets())
		}
	}
}
