package page

import (
	"bytes"
	"errors"
	"math"
	"slices"
	"testing"

	"quilt/api"
	"quilt/chance"
	"quilt/sum"
)

// made is a page of so many records of a size, all of it by chance.
func made(c *chance.Chance, size, count int) Page {
	p := Page{Kind: byte(c.Below(256)), Size: size}
	for _, x := range c.Bytes(4) {
		p.Number = p.Number*256 + uint32(x)
	}
	for _, x := range c.Bytes(8) {
		p.Epoch = p.Epoch*256 + uint64(x)
	}
	for range count {
		p.Records = append(p.Records, c.Bytes(size))
	}
	return p
}

func encoded(t *testing.T, p Page) []byte {
	t.Helper()
	b, err := Encode(p)
	if err != nil || len(b) != 512 {
		t.Fatalf("Encode of %d records of %d: %d bytes, %v", len(p.Records), p.Size, len(b), err)
	}
	return b
}

// laidOut is a page's sector by the chapter, byte behind byte: another way than the package's own, to hold it against.
func laidOut(p Page) []byte {
	b := []byte{p.Kind}
	for by := 1 << 24; by > 0; by /= 256 {
		b = append(b, byte(int(p.Number)/by%256))
	}
	for by := uint64(1) << 56; by > 0; by /= 256 {
		b = append(b, byte(p.Epoch/by%256))
	}
	b = append(b, byte(p.Size/256), byte(p.Size%256), byte(len(p.Records)))
	for _, r := range p.Records {
		b = append(b, r...)
	}
	return marked(b)
}

// marked is a sector that begins with these bytes, then noughts, then a sum that is good.
func marked(b []byte) []byte {
	whole := make([]byte, 512)
	copy(whole, b)
	m, err := sum.Mark(whole)
	if err != nil {
		panic(err)
	}
	return m
}

// head is how a sector begins that says it has so many records of a size.
func head(size, count int) []byte {
	return []byte{1, 0, 0, 0, 2, 0, 0, 0, 0, 0, 0, 0, 3, byte(size / 256), byte(size % 256), byte(count)}
}

func same(a, b Page) bool {
	return a.Kind == b.Kind && a.Number == b.Number && a.Epoch == b.Epoch && a.Size == b.Size &&
		slices.EqualFunc(a.Records, b.Records, bytes.Equal)
}

func nothing(p Page) bool {
	return p.Kind == 0 && p.Number == 0 && p.Epoch == 0 && p.Size == 0 && p.Records == nil
}

// copied is a page that shares nothing with p.
func copied(p Page) Page {
	records := p.Records
	p.Records = nil
	for _, r := range records {
		p.Records = append(p.Records, bytes.Clone(r))
	}
	return p
}

func fails(t *testing.T, what string, err error, want api.Errno) {
	t.Helper()
	var number api.Errno
	if !errors.As(err, &number) || number != want {
		t.Errorf("%s: %v, want %v", what, err, want)
	}
}

func isRead(t *testing.T, what string, b []byte, want Page) {
	t.Helper()
	got, err := Decode(b)
	if err != nil || !same(got, want) {
		t.Errorf("Decode of %s: %v, %v, want %v", what, got, err, want)
	}
}

func isNotRead(t *testing.T, what string, b []byte, want api.Errno) {
	t.Helper()
	p, err := Decode(b)
	fails(t, "Decode of "+what, err, want)
	if !nothing(p) {
		t.Errorf("Decode of %s: a page beside the error", what)
	}
}

// can says that a page may be, cannot that it may not.
func can(t *testing.T, what string, p Page) {
	t.Helper()
	if err := Check(p); err != nil {
		t.Errorf("Check of %s: %v", what, err)
	}
	b, err := Encode(p)
	if err != nil || !bytes.Equal(b, laidOut(p)) {
		t.Errorf("Encode of %s: %x, %v", what, b, err)
	}
	isRead(t, what, b, p)
}

func cannot(t *testing.T, what string, p Page) {
	t.Helper()
	fails(t, "Check of "+what, Check(p), api.ErrArg)
	b, err := Encode(p)
	fails(t, "Encode of "+what, err, api.ErrArg)
	if len(b) != 0 {
		t.Errorf("Encode of %s: bytes beside the error", what)
	}
}

// PG1: how many records there is room for.
func TestRoom(t *testing.T) {
	known := []struct{ size, want int }{
		{math.MinInt, 0}, {-492, 0}, {-2, 0}, {-1, 0}, {0, 0},
		{1, 255}, {2, 246}, {3, 164}, {4, 123}, {24, 20}, {164, 3}, {165, 2}, {246, 2}, {247, 1}, {491, 1}, {492, 1},
		{493, 0}, {494, 0}, {512, 0}, {65536, 0}, {65537, 0}, {1 << 32, 0}, {math.MaxInt, 0},
	}
	for _, k := range known {
		if got := Room(k.size); got != k.want {
			t.Errorf("Room(%d): %d, want %d", k.size, got, k.want)
		}
	}
	for size := 1; size <= 600; size++ {
		want := 0
		for want < 255 && (want+1)*size <= 492 {
			want++
		}
		if got := Room(size); got != want {
			t.Errorf("Room(%d): %d, want %d", size, got, want)
		}
	}
}

// PG1: no records, one, and as many as there is room for, of each size; not one more.
func TestCheckCount(t *testing.T) {
	c := chance.Chance(1)
	for size := 1; size <= 492; size++ {
		most := min(492/size, 255)
		for _, count := range []int{0, 1, most - 1, most} {
			can(t, "as many as there is room for", made(&c, size, count))
		}
		cannot(t, "one more", made(&c, size, most+1))
	}
	for _, count := range []int{256, 257, 491, 492, 493, 511, 512, 1 << 16} {
		cannot(t, "more records of one byte than a byte counts", made(&c, 1, count))
	}
	can(t, "no records as an empty list", Page{Size: 3, Records: [][]byte{}})
}

// PG1: a size that is not from 1 to 492 can't be, without records either.
func TestCheckSize(t *testing.T) {
	for _, size := range []int{math.MinInt, -512, -492, -1, 0, 493, 494, 512, 65535, 65536, 65537, 65536 + 492, math.MaxInt} {
		cannot(t, "a size without records", Page{Size: size})
		cannot(t, "a size with a record of no bytes", Page{Size: size, Records: [][]byte{nil}})
		if size > 0 && size < 1<<17 {
			cannot(t, "a size with a record", Page{Size: size, Records: [][]byte{make([]byte, size)}})
		}
	}
}

// PG1: a record that is too short or too long by some bytes, wherever it stands.
func TestCheckRecord(t *testing.T) {
	c := chance.Chance(2)
	for _, size := range []int{1, 2, 3, 24, 100, 491, 492} {
		most := Room(size)
		for _, count := range []int{1, most} {
			for _, at := range []int{0, count / 2, count - 1} {
				for _, by := range []int{-size, -1, 1, size} {
					p := made(&c, size, count)
					p.Records[at] = c.Bytes(size + by)
					cannot(t, "a record of another size", p)
				}
				p := made(&c, size, count)
				p.Records[at] = nil
				cannot(t, "a record that is nil", p)
			}
		}
	}
	// As many bytes in all as there should be, but not parted so.
	cannot(t, "records that make up for each other", Page{Size: 2, Records: [][]byte{{1}, {2, 3, 4}}})
}

// PG1: sectors whose sums others reckoned.
func TestEncodeKnown(t *testing.T) {
	b := make([]byte, 512)
	copy(b, "\xa7\x01\x02\x03\x04\x11\x12\x13\x14\x15\x16\x17\x18\x00\x03\x02abcdef")
	copy(b[508:], "\x91\xff\x8c\x1f")
	p := Page{Kind: 0xa7, Number: 0x01020304, Epoch: 0x1112131415161718, Size: 3, Records: [][]byte{[]byte("abc"), []byte("def")}}
	if got := encoded(t, p); !bytes.Equal(got, b) {
		t.Errorf("Encode: %x, want %x", got, b)
	}
	isRead(t, "a page that is known", b, p)

	b = make([]byte, 512)
	copy(b, "\x01\x00\x00\x00\x00\x00\x00\x00\x00\x00\x00\x00\x00\x01\xec\x00")
	copy(b[508:], "\xaa\xaf\x6c\x6d")
	p = Page{Kind: 1, Size: 492}
	if got := encoded(t, p); !bytes.Equal(got, b) {
		t.Errorf("Encode: %x, want %x", got, b)
	}
	isRead(t, "a page without records", b, p)
}

// PG1, PG2: Kind, Number and Epoch at nought, at their greatest, and with each bit alone.
func TestEncodeNumbers(t *testing.T) {
	records := [][]byte{{1, 2}, {3, 4}, {0, 0}}
	can(t, "all at nought", Page{Size: 2, Records: records})
	can(t, "all at their greatest", Page{Kind: math.MaxUint8, Number: math.MaxUint32, Epoch: math.MaxUint64, Size: 2, Records: records})
	for bit := range 64 {
		can(t, "one bit", Page{Kind: 1 << bit, Size: 2, Records: records})
		can(t, "one bit", Page{Number: 1 << bit, Size: 2, Records: records})
		can(t, "one bit", Page{Epoch: 1 << bit, Size: 2, Records: records})
	}
}

// PG1: noughts, and all ones, are records like others.
func TestEncodePlainRecords(t *testing.T) {
	for _, x := range []byte{0, 255} {
		for _, size := range []int{1, 24, 492} {
			p := Page{Size: size}
			for range Room(size) {
				p.Records = append(p.Records, bytes.Repeat([]byte{x}, size))
			}
			can(t, "records of one byte over and over", p)
		}
	}
}

// PG2: what has not 512 bytes is told ahead of its sum.
func TestDecodeLength(t *testing.T) {
	c := chance.Chance(3)
	for _, n := range []int{0, 1, 4, 16, 20, 508, 511, 513, 516, 1024, 1 << 16} {
		isNotRead(t, "bytes by chance", c.Bytes(n), api.ErrLong)
		isNotRead(t, "noughts", make([]byte, n), api.ErrLong)
	}
	isNotRead(t, "nil", nil, api.ErrLong)
	b := encoded(t, made(&c, 24, 20))
	isNotRead(t, "a page that is cut", b[:511], api.ErrLong)
	isNotRead(t, "a page that is cut ahead", b[1:], api.ErrLong)
	isNotRead(t, "a page and a byte", append(b, 0), api.ErrLong)
	for _, n := range []int{4, 511, 513} {
		m, err := sum.Mark(append(head(1, 0), make([]byte, n)...)[:n])
		if err != nil {
			t.Fatal(err)
		}
		isNotRead(t, "bytes that are good", m, api.ErrLong)
	}
}

// PG2: what is not good is told ahead of its form.
func TestDecodeSum(t *testing.T) {
	c := chance.Chance(4)
	isNotRead(t, "noughts", make([]byte, 512), api.ErrSum)
	isNotRead(t, "ones", bytes.Repeat([]byte{255}, 512), api.ErrSum)
	for range 100 {
		isNotRead(t, "bytes by chance", c.Bytes(512), api.ErrSum)
	}
	for _, form := range [][]byte{head(24, 20), head(0, 0), head(493, 0), head(2, 255)} {
		b := marked(form)
		slices.Reverse(b[508:])
		isNotRead(t, "a sum the wrong way round", b, api.ErrSum)
		b = marked(form)
		copy(b[508:], []byte{0, 0, 0, 0})
		isNotRead(t, "a page without its sum", b, api.ErrSum)
	}
}

// PG2: a good sum over each size, and each number of records, that a sector can tell.
func TestDecodeSizeCount(t *testing.T) {
	counts := []int{0, 1, 2, 3, 19, 20, 21, 245, 246, 247, 254, 255}
	for size := range 1 << 16 {
		if size > 600 && size%251 != 0 && size&0xff != 1 {
			continue
		}
		for _, count := range counts {
			b := marked(head(size, count))
			if size < 1 || size > 492 || count > min(492/size, 255) {
				isNotRead(t, "a page that can't be", b, api.ErrForm)
				continue
			}
			p := Page{Kind: 1, Number: 2, Epoch: 3, Size: size}
			for range count {
				p.Records = append(p.Records, make([]byte, size))
			}
			isRead(t, "a page that may be", b, p)
		}
	}
	isNotRead(t, "noughts that are good", marked(nil), api.ErrForm)
	isNotRead(t, "ones that are good", marked(bytes.Repeat([]byte{255}, 508)), api.ErrForm)
}

// PG2: behind the last record there are noughts alone.
func TestDecodeBehind(t *testing.T) {
	c := chance.Chance(5)
	for _, form := range []struct{ size, count int }{{1, 0}, {1, 1}, {1, 255}, {2, 246}, {3, 163}, {3, 164}, {24, 0}, {24, 20}, {165, 2}, {490, 1}, {491, 1}, {492, 0}, {492, 1}} {
		p := made(&c, form.size, form.count)
		b := encoded(t, p)
		end := 16 + form.size*form.count
		for at := end; at < 508; at++ {
			other := bytes.Clone(b)
			other[at] = 1 << c.Below(8)
			isNotRead(t, "a byte behind the last record", marked(other), api.ErrForm)
		}
		if form.count > 0 {
			p.Records[form.count-1][form.size-1] ^= 1
			b[end-1] ^= 1
			isRead(t, "another last byte", marked(b), p)
		}
	}
}

// PG2: whatever has a good sum, and is read, is Encode of it.
func TestDecodeAny(t *testing.T) {
	c := chance.Chance(6)
	read := 0
	for range 20000 {
		b := c.Bytes(16 + c.Below(8))
		b[13] = byte(c.Below(2))
		b[15] = byte(c.Below(4))
		m := marked(b)
		p, err := Decode(m)
		if err != nil {
			isNotRead(t, "bytes by chance", m, api.ErrForm)
			continue
		}
		read++
		if !bytes.Equal(encoded(t, p), m) {
			t.Fatalf("Decode of %x: %v", m, p)
		}
	}
	if read < 1000 {
		t.Errorf("only %d pages were read", read)
	}
}

// PG3: Decode of Encode is the page.
func TestDecodeEncode(t *testing.T) {
	c := chance.Chance(7)
	for range 3000 {
		size := 1 + c.Below(492)
		if c.Below(2) == 0 {
			size = 1 + c.Below(30)
		}
		p := made(&c, size, c.Below(Room(size)+1))
		isRead(t, "Encode", encoded(t, p), p)
	}
}
