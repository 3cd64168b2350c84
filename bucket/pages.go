package bucket

import (
	"bytes"
	"slices"

	"quilt/api"
	"quilt/page"
)

// Where in a record a pair's parts begin.
const (
	keyAt   = 0
	valueAt = keyAt + 8
	size    = valueAt + 4
)

// Save is an index as pages.
func (x *Index) Save(kind byte) []page.Page {
	var pages []page.Page
	for pairs := range slices.Chunk(x.All(), page.Room(size)) {
		p := page.Page{Kind: kind, Number: uint32(len(pages)), Size: size}
		for _, pair := range pairs {
			p.Records = append(p.Records, recorded(pair))
		}
		pages = append(pages, p)
	}
	return pages
}

// Load is the index of pages.
func Load(room int, l []page.Page) (*Index, error) {
	x, err := New(room)
	if err != nil {
		return nil, err
	}
	if len(l) == 0 {
		return x, nil
	}
	for _, p := range l {
		if !x.putAll(p.Records) {
			return nil, api.ErrForm
		}
	}
	// Pages that are in any way other than their pairs would be saved are not those of an index.
	if !slices.EqualFunc(l, x.Save(l[0].Kind), samePage) {
		return nil, api.ErrForm
	}
	return x, nil
}

// putAll puts the pairs of records. It tells whether all of them are pairs, and could be put.
func (x *Index) putAll(records [][]byte) bool {
	for _, r := range records {
		if len(r) != size || x.Put(taken(r[keyAt:valueAt]), uint32(taken(r[valueAt:]))) != nil {
			return false
		}
	}
	return true
}

// samePage tells whether two pages have all in common.
func samePage(a, b page.Page) bool {
	return a.Kind == b.Kind && a.Number == b.Number && a.Epoch == b.Epoch && a.Size == b.Size &&
		slices.EqualFunc(a.Records, b.Records, bytes.Equal)
}

// recorded is a pair as a record.
func recorded(p Pair) []byte {
	r := make([]byte, size)
	lay(r[keyAt:valueAt], p.Key)
	lay(r[valueAt:], uint64(p.Value))
	return r
}

// lay writes a number all over b, its highest byte first.
func lay(b []byte, n uint64) {
	for i := range b {
		b[len(b)-1-i] = byte(n >> (8 * i))
	}
}

// taken is the number that lay wrote.
func taken(b []byte) uint64 {
	var n uint64
	for _, x := range b {
		n = n<<8 | uint64(x)
	}
	return n
}
