// Package chance makes numbers for the tests of the layers, the same ones each time. No layer stands on it.
package chance

// Chance makes numbers without an end, which all hang on what it begins with.
type Chance uint64

// Below is a number from 0 to n-1, of n above 0.
func (c *Chance) Below(n int) int {
	*c = *c*6364136223846793005 + 1442695040888963407
	// The low bits of such a number come round soon.
	return int(uint64(*c)>>33) % n
}

// Bytes are so many bytes.
func (c *Chance) Bytes(n int) []byte {
	b := make([]byte, n)
	for i := range b {
		b[i] = byte(c.Below(256))
	}
	return b
}
