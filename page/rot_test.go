package page

import (
	"bytes"
	"testing"

	"quilt/api"
	"quilt/chance"
)

// pages are a few of each kind: full, half full, without records.
func pages(c *chance.Chance) []Page {
	return []Page{made(c, 24, 20), made(c, 24, 7), made(c, 1, 255), made(c, 492, 1), made(c, 8, 0), {Size: 1}}
}

// turn turns some bits, the first of which is each byte's lowest.
func turn(b []byte, bits ...int) []byte {
	b = bytes.Clone(b)
	for _, bit := range bits {
		b[bit/8] ^= 1 << (bit % 8)
	}
	return b
}

// PG3: a page with one to three bits changed is not read.
func TestRotBits(t *testing.T) {
	c := chance.Chance(1)
	for _, p := range pages(&c) {
		b := encoded(t, p)
		for bit := range 4096 {
			isNotRead(t, "one bit that rots", turn(b, bit), api.ErrSum)
		}
		for range 5000 {
			first := c.Below(4096)
			second := (first + 1 + c.Below(4095)) % 4096
			isNotRead(t, "two bits that rot", turn(b, first, second), api.ErrSum)
			third := c.Below(4096)
			if third != first && third != second {
				isNotRead(t, "three bits that rot", turn(b, first, second, third), api.ErrSum)
			}
		}
		isRead(t, "what has not rotted", b, p)
	}
}

// PG3: a page with some bits changed within 32 on end is not read.
func TestRotBurst(t *testing.T) {
	c := chance.Chance(2)
	for _, p := range pages(&c) {
		b := encoded(t, p)
		for begin := range 4096 - 32 + 1 {
			bits := []int{begin}
			for bit := begin + 1; bit < begin+32; bit++ {
				if c.Below(2) == 0 {
					bits = append(bits, bit)
				}
			}
			isNotRead(t, "a burst", turn(b, bits...), api.ErrSum)
		}
		for at := range 512 - 4 + 1 {
			other := bytes.Clone(b)
			for i := range 4 {
				other[at+i] = ^other[at+i]
			}
			isNotRead(t, "four bytes turned", other, api.ErrSum)
		}
	}
}
