// Package octet: numbers as bytes, for the layers that tell what they have by bytes.
package octet

import "strings"

// Put numbers behind a text, of each its lowest byte: so a greater number is put as its bytes, shifted down one by one, and one below 0 as it and a power of 256.
func Put(out *strings.Builder, l ...int) {
	for _, n := range l {
		out.WriteByte(byte(n))
	}
}

// PutFour bytes of a number behind a text, the greatest one first; of one below 0, those of it and 2^32.
func PutFour(out *strings.Builder, n int) {
	Put(out, n>>24, n>>16, n>>8, n)
}

// Number that bytes tell, the greatest one first.
func Number(s string) int {
	n := 0
	for i := range len(s) {
		n = n<<8 | int(s[i])
	}
	return n
}
