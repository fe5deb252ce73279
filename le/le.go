// Package le writes and reads numbers as bytes, the least one first.
package le

// wordWidth is how many bytes a word of a file has.
const wordWidth = 8

// isWidth tells whether there are numbers of so many bytes.
func isWidth(width int) bool {
	switch width {
	case 1, 2, 4, wordWidth:
		return true
	}
	return false
}

// Get reads a number of so many bytes; false: there is none.
func Get(b []byte, at, width int) (uint64, bool) {
	// at+width could wrap round; len(b)-width can't.
	if !isWidth(width) || at < 0 || at > len(b)-width {
		return 0, false
	}
	n := uint64(0)
	for i, x := range b[at : at+width] {
		n |= uint64(x) << (8 * i)
	}
	return n, true
}

// Bytes writes a number as so many bytes; what has no place is left out.
func Bytes(n uint64, width int) []byte {
	b := make([]byte, min(max(width, 0), wordWidth))
	for i := range b {
		b[i] = byte(n >> (8 * i))
	}
	return b
}

// Align tells the next multiple of eight; 0 of below 0.
func Align(n int) int {
	return (max(n, 0) + 7) &^ 7
}
