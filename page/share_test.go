package page

import (
	"bytes"
	"testing"

	"quilt/api"
	"quilt/chance"
)

// spoil writes over a list of bytes and all its spare room.
func spoil(b []byte) {
	b = b[:cap(b)]
	for i := range b {
		b[i] ^= 0xff
	}
}

// Rule 3: Check and Encode leave the page as it was, the spare room of its lists too.
func TestEncodeLeavesPage(t *testing.T) {
	c := chance.Chance(1)
	p := made(&c, 24, 5)
	room := c.Bytes(24 * 8)
	for i := range p.Records {
		p.Records[i] = room[i*30 : i*30+24]
	}
	before, roomBefore := copied(p), bytes.Clone(room)
	spare := append(p.Records, []byte("spare"))
	if err := Check(p); err != nil {
		t.Error(err)
	}
	encoded(t, p)
	if !same(p, before) || !bytes.Equal(room, roomBefore) || string(spare[5]) != "spare" {
		t.Errorf("Encode changed its page")
	}
	p.Records[3] = room[:25]
	if Check(p) == nil {
		t.Error("Check of a record that is too long: nil")
	}
	if _, err := Encode(p); err == nil {
		t.Error("Encode of a record that is too long: nil")
	}
	if !bytes.Equal(room, roomBefore) {
		t.Errorf("Encode changed its page beside an error")
	}
}

// Rule 3: the bytes that Encode answers are the caller's own, each time.
func TestEncodeShares(t *testing.T) {
	c := chance.Chance(2)
	for _, p := range []Page{made(&c, 492, 1), made(&c, 24, 20), made(&c, 24, 0)} {
		before := copied(p)
		first, second := encoded(t, p), encoded(t, p)
		spoil(first)
		if !same(p, before) {
			t.Error("an answer shares memory with the page")
		}
		for _, r := range p.Records {
			spoil(r)
		}
		if !bytes.Equal(second, laidOut(before)) {
			t.Error("an answer shares memory with the page, or with another answer")
		}
	}
}

// Rule 3: Decode leaves its bytes as they were, and what is behind them.
func TestDecodeLeavesBytes(t *testing.T) {
	c := chance.Chance(3)
	b := append(encoded(t, made(&c, 24, 20)), c.Bytes(100)...)
	before := bytes.Clone(b)
	isNotRead(t, "too many bytes", b, api.ErrLong)
	if _, err := Decode(b[:512]); err != nil {
		t.Error(err)
	}
	b[20] ^= 1
	isNotRead(t, "a page that rots", b[:512], api.ErrSum)
	b[20] ^= 1
	if !bytes.Equal(b, before) {
		t.Error("Decode changed its bytes")
	}
}

// Rule 3: no record of an answer shares memory with the bytes, with another record, or with another answer; spare room neither.
func TestDecodeShares(t *testing.T) {
	c := chance.Chance(4)
	for _, size := range []int{1, 2, 24, 100, 492} {
		p := made(&c, size, Room(size))
		b := encoded(t, p)
		before := bytes.Clone(b)
		first, err := Decode(b)
		if err != nil {
			t.Fatal(err)
		}
		for i := range first.Records {
			spoil(first.Records[i])
			for j := i + 1; j < len(first.Records); j++ {
				if !bytes.Equal(first.Records[j], p.Records[j]) {
					t.Fatalf("records %d and %d of %d bytes share memory", i, j, size)
				}
			}
			spoil(first.Records[i])
		}
		for i := len(first.Records) - 1; i >= 0; i-- {
			if !bytes.Equal(first.Records[i], p.Records[i]) {
				t.Fatalf("record %d of %d bytes shares memory", i, size)
			}
			spoil(first.Records[i])
		}
		if !bytes.Equal(b, before) {
			t.Fatal("a record shares memory with the bytes")
		}
		second, err := Decode(b)
		if err != nil {
			t.Fatal(err)
		}
		spoil(b)
		if !same(second, p) {
			t.Error("a record shares memory with the bytes, or with another answer")
		}
	}
}
