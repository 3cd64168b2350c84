// Package sum is layer 1: sums of bytes: see shared/doc/01-sum.md.
package sum

import "quilt/api"

const (
	polynomial = 0x82f63b78 // Castagnoli's, mirrored as the register is: its highest power stands lowest
	bits       = 32         // of a register
	size       = bits / 8   // bytes of a sum
	most       = 1 << 40    // noughts: more of them count as so many
)

// Sum is the sum of bytes.
func Sum(b []byte) uint32 {
	// The sum of no bytes is 0: all ones, all turned.
	return More(0, b)
}

// More is a sum with more bytes.
func More(sum uint32, b []byte) uint32 {
	register := ^sum
	for _, x := range b {
		register = oneMore(register, x)
	}
	return ^register
}

// Noughts is a sum with so many noughts behind.
func Noughts(sum uint32, n int) uint32 {
	register := ^sum
	// Not byte by byte: by powers of two, for there may be far more noughts than steps.
	some := one()
	for left := min(int64(n), most); left > 0; left /= 2 {
		if left%2 == 1 {
			register = some.behind(register)
		}
		some = some.twice()
	}
	return ^register
}

// Mark writes the sum of all but the last four bytes into these.
func Mark(b []byte) ([]byte, error) {
	if len(b) < size {
		return nil, api.ErrArg
	}
	body := b[:len(b)-size]
	marked := make([]byte, len(b))
	copy(marked, body)
	end := tail(Sum(body))
	copy(marked[len(body):], end[:])
	return marked, nil
}

// Good tells whether the last four bytes are the sum of all others.
func Good(b []byte) bool {
	if len(b) < size {
		return false
	}
	body, end := b[:len(b)-size], b[len(b)-size:]
	return [size]byte(end) == tail(Sum(body))
}

// oneMore is what a register becomes with one more byte.
func oneMore(register uint32, x byte) uint32 {
	// A bit of x lies still till those below it are moved out, so all of them can be laid on ahead.
	register ^= uint32(x)
	for range 8 {
		// A product in the place of a question: the lowest bit is as good as chance, and a wrong guess of it costs more.
		register = register>>1 ^ (register&1)*polynomial
	}
	return register
}

// tail is a sum as it stands behind what it is of.
func tail(sum uint32) [size]byte {
	var end [size]byte
	for i := range size {
		end[i] = byte(sum >> (8 * i))
	}
	return end
}

// noughts tells of some noughts what each single bit of a register becomes with them. A whole register becomes what its bits become, turned by one another: no step mixes bits in any other way.
type noughts [bits]uint32

// one is a single nought.
func one() noughts {
	var some noughts
	for i := range bits {
		some[i] = oneMore(1<<i, 0)
	}
	return some
}

// twice is as many noughts again.
func (some noughts) twice() noughts {
	var both noughts
	for i := range bits {
		both[i] = some.behind(some[i])
	}
	return both
}

// behind is what a register becomes with these noughts.
func (some noughts) behind(register uint32) uint32 {
	var next uint32
	for i := range bits {
		next ^= (register >> i & 1) * some[i]
	}
	return next
}
